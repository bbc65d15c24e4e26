/-
  The function fold of package sha by its contract. Conditions: the numbers fit their kinds; the table of constants lies where the program's text lays it.
-/
import Derived.Test.YtbfdhbobokfbhaaDoorSha2
import Derived.StillTailTactics
namespace Go.Proofs.YtbfdhbobokfbhaaDoor.Sha
open Go.RowKit Go.Proofs.YtbfdhbobokfbhaaDoor.Mem Go.Proofs.YtbfdhbobokfbhaaDoor.Help Go.Proofs.YtbfdhbobokfbhaaDoor.Sum
set_option linter.unusedVariables false

/-- a table of numbers of 32 bits, at a variable's block -/
def Tab (w : World) (g : Nat) (zs : List Int) : Prop := ∃ t fr, w.heap[g]? = some (.cells (arr .u32 zs) t fr)
section
variable {w w' : World} {g : Nat} {zs : List Int}
theorem Tab.lt (h : Tab w g zs) : g < w.heap.size := by obtain ⟨t, fr, h⟩ := h; exact (Array.getElem?_eq_some_iff.1 h).1
theorem Tab.below {B : Nat} (h : Tab w g zs) (hb : Below B w w') (hg : g < B) : Tab w' g zs := by obtain ⟨t, fr, h⟩ := h; exact ⟨t, fr, (hb.block g hg).trans h⟩
theorem Tab.cell (h : Tab w g zs) {i : Nat} (hi : i < zs.length) : w.cell? ⟨g, i, none⟩ = some (.int .u32 (zs.getD i 0)) := by
  obtain ⟨t, fr, h⟩ := h
  rw [cell_of_row w g i _ t fr h, arr_get _ _ hi]
end

/-- the places of the rolling window when k rounds are over -/
def Rolled (bs : List Int) (k : Nat) (nx : List Int) : Prop := nx.length = 16 ∧ ∀ j, min k 48 ≤ j → j < min k 48 + 16 → nx.getD (j % 16) 0 = (W bs).getD j 0

theorem Rolled.start (bs : List Int) : Rolled bs 0 (words bs) := ⟨words_length bs, fun j _ h => by
  rw [W_word bs (by omega), Nat.mod_eq_of_lt (by omega)]
  simp [words, List.getD_eq_getElem?_getD, show j < 16 by omega]⟩
theorem Rolled.cur {bs : List Int} {k : Nat} {nx : List Int} (h : Rolled bs k nx) (hk : k < 64) : nx.getD (k % 16) 0 = (W bs).getD k 0 := h.2 k (by omega) (by omega)
theorem Rolled.late {bs : List Int} {k : Nat} {nx : List Int} (h : Rolled bs k nx) (hk : 48 ≤ k) : Rolled bs (k + 1) nx := ⟨h.1, fun j h1 h2 => h.2 j (by omega) (by omega)⟩
theorem Rolled.step {bs : List Int} {k : Nat} {nx : List Int} (h : Rolled bs k nx) (hk : k < 48) :
    Rolled bs (k + 1) (nx.set (k % 16) (addI (nx.getD (k % 16) 0) (addI (addI (smallI (nx.getD ((k % 16 + 1) % 16) 0) 7 18 3) (nx.getD ((k % 16 + 9) % 16) 0)) (smallI (nx.getD ((k % 16 + 14) % 16) 0) 17 19 10)))) := by
  have e0 := h.2 k (by omega) (by omega)
  have e1 := h.2 (k + 1) (by omega) (by omega)
  have e9 := h.2 (k + 9) (by omega) (by omega)
  have e14 := h.2 (k + 14) (by omega) (by omega)
  have m1 : (k % 16 + 1) % 16 = (k + 1) % 16 := by omega
  have m9 : (k % 16 + 9) % 16 = (k + 9) % 16 := by omega
  have m14 : (k % 16 + 14) % 16 = (k + 14) % 16 := by omega
  rw [m1, m9, m14, e0, e1, e9, e14, roll]
  have hn := W_next bs (t := k + 16) (by omega) (by omega)
  simp only [show k + 16 - 2 = k + 14 by omega, show k + 16 - 7 = k + 9 by omega, show k + 16 - 15 = k + 1 by omega, show k + 16 - 16 = k by omega] at hn
  rw [← hn]
  refine ⟨by rw [List.length_set]; exact h.1, fun j h1 h2 => ?_⟩
  by_cases hj : j = k + 16
  · subst hj
    have : (k + 16) % 16 = k % 16 := by omega
    rw [this]
    simp [List.getD_eq_getElem?_getD, h.1, show k % 16 < 16 by omega]
  · rw [← h.2 j (by omega) (by omega)]
    have : k % 16 ≠ j % 16 := by omega
    simp [List.getD_eq_getElem?_getD, this]

theorem row_still {w w' : World} (h : Still w w') {g : Nat} {t : TypeId} {k : IntKind} {zs : List Int} (hr : Row w g t k zs) : Row w' g t k zs := ⟨hr.1, by rw [h.heap]; exact hr.2⟩
theorem tab_still {w w' : World} (h : Still w w') {g : Nat} {zs : List Int} (hr : Tab w g zs) : Tab w' g zs := by unfold Tab; rw [h.heap]; exact hr
theorem tab_set {w : World} {g : Nat} {zs : List Int} (hr : Tab w g zs) {p : Addr} (hp : g ≠ p.block) (v : Value) : Tab (w.setCell p v) g zs := by
  obtain ⟨t, fr, h⟩ := hr
  exact ⟨t, fr, (heap_setCell_other w p g v hp).trans h⟩

theorem sum_e (x3 x7 A C kk ww : Int) : addI x3 (addI (addI (addI (addI x7 A) C) kk) ww) = (x3 + (x7 + A + C + kk + ww)) % 4294967296 := by unfold addI; omega
theorem sum_a (x7 A C kk ww s0 mj : Int) : addI (addI (addI (addI (addI x7 A) C) kk) ww) (addI s0 mj) = (x7 + A + C + kk + ww + (s0 + mj)) % 4294967296 := by unfold addI; omega

/-- the first k places summed -/
def sumPart (h v : List Int) (k : Nat) : List Int := (List.range 8).map fun i => if i < k then addI (h.getD i 0) (v.getD i 0) else h.getD i 0
theorem sumPart_length (h v : List Int) (k : Nat) : (sumPart h v k).length = 8 := by simp [sumPart]
theorem sumPart_get (h v : List Int) {k i : Nat} (hi : i < 8) : (sumPart h v k).getD i 0 = if i < k then addI (h.getD i 0) (v.getD i 0) else h.getD i 0 := by simp [sumPart, List.getD_eq_getElem?_getD, hi]
theorem sumPart_end (h v : List Int) : sumPart h v 8 = sumUp h v := by
  unfold sumPart sumUp
  apply List.map_congr_left
  intro i hi
  rw [if_pos (List.mem_range.1 hi)]
theorem sumPart_start {h : List Int} (v : List Int) (hl : h.length = 8) : sumPart h v 0 = h := by
  apply List.ext_getElem (by rw [sumPart_length, hl])
  intro i h1 h2
  simp [sumPart, List.getD_eq_getElem?_getD, h2]
theorem sumPart_step (h v : List Int) {k : Nat} (hk : k < 8) : sumPart h v (k + 1) = (sumPart h v k).set k (addI (h.getD k 0) (v.getD k 0)) := by
  apply List.ext_getElem (by rw [List.length_set, sumPart_length, sumPart_length])
  intro i h1 h2
  rw [List.getElem_set]
  by_cases e : k = i
  · subst e
    simp [sumPart]
  · rw [if_neg e]
    simp only [sumPart, List.getElem_map, List.getElem_range]
    by_cases q : i < k
    · rw [if_pos (by omega), if_pos q]
    · rw [if_neg (by omega), if_neg q]

theorem still_of {P : Program} {f : FuncId} {args : Array Value} {w : World} {v : Value} (h : Calls P f args w fun e w' => e = .returned v ∧ w = w') : Calls P f args w fun e w' => e = .returned v ∧ w' = w :=
  h.mono fun _ _ ⟨a, b⟩ => ⟨a, b.symm⟩

set_option maxRecDepth 100000 in
set_option maxHeartbeats 1000000 in
theorem fold_any (v bs : List Int) (w : World) (hv : Eight v) (hb : Bs bs) (hl : bs.length = 64) (hT : Tab w 1 Sum.K) :
    Calls Tryd.prog 33 #[.agg (arr .u32 v), .agg (arr .u8 bs)] w fun e w' => e = .returned (.agg (arr .u32 (Sum.block v bs))) ∧ Below w.heap.size w w' := by
  have hbw : ∀ z ∈ bs, (Lit.int .u8 z).wf = true := fun z hz => by have := hb z hz; simp [Lit.wf, IntKind.min, IntKind.max, IntKind.signed, IntKind.bits]; omega
  have hvw : ∀ z ∈ v, (Lit.int .u32 z).wf = true := fun z hz => wf_u32 (hv.2 z hz)
  have hz8 : ∀ z ∈ ([0, 0, 0, 0, 0, 0, 0, 0] : List Int), (Lit.int .u32 z).wf = true := by decide
  have HL := Lib.hid hl
  have HV := Lib.hid hv.1
  clear hl
  have r0 := ((Row.new w 53 hvw).alloc (.cells (arr .u8 bs) 44)).alloc (.cells (arr .u32 [0, 0, 0, 0, 0, 0, 0, 0]) 53)
  have r1 := (Row.new (w.alloc (.cells (arr .u32 v) 53)) 44 hbw).alloc (.cells (arr .u32 [0, 0, 0, 0, 0, 0, 0, 0]) 53)
  have r2 := Row.new ((w.alloc (.cells (arr .u32 v) 53)).alloc (.cells (arr .u8 bs) 44)) 53 hz8
  have hb0 : Below w.heap.size w (((w.alloc (.cells (arr .u32 v) 53)).alloc (.cells (arr .u8 bs) 44)).alloc (.cells (arr .u32 [0, 0, 0, 0, 0, 0, 0, 0]) 53)) :=
    (((Below.refl _ w).alloc (Nat.le_refl _) _).alloc (by simp) _).alloc (by simp; omega) _
  rw [World.size_alloc] at r1
  rw [World.size_alloc, World.size_alloc] at r2
  go_enter Tryd.func33, Tryd.ntmps33
  go_wp2
  go_step3
  go_wp2_with (refine wpList_load_Row rfl 44 _ rfl (w.heap.size + 1) rfl 44 .u8 bs r1 64 5 Tryd.underlying44 info_64 HL.out ?_)
  refine (split_any bs _ hb HL.out).mono ?_
  rintro e w4 ⟨rfl, hb4⟩
  have k0 := r0.below hb4 (by simp; omega)
  have k1 := r1.below hb4 (by simp)
  have k2 := r2.below hb4 (by simp)
  have b4 := hb0.trans (hb4.mono (by simp; omega))
  have s4 := hb4.size
  simp only [World.size_alloc] at s4
  have T4 : Tab w4 1 Sum.K := hT.below b4 hT.lt
  have G := hT.lt
  clear r0 r1 r2 hb0 hb4 hT hbw hvw
  have n5 := Row.new w4 69 (show ∀ z ∈ ([0, 0, 0, 0, 0, 0, 0, 0, 0, 0, 0, 0, 0, 0, 0, 0] : List Int), (Lit.int .u32 z).wf = true by decide)
  go_wp2_with (refine wpList_store_Row rfl 69 _ _ rfl w4.heap.size rfl 69 .u32 _ (words bs) rfl n5 16 info_16 (words_length bs) rfl ?_)
  have m5 := n5.setRow (r32_words hb)
  have m0 := (k0.alloc (.cells (arr .u32 [0, 0, 0, 0, 0, 0, 0, 0, 0, 0, 0, 0, 0, 0, 0, 0]) 69)).setRow_other (g' := w4.heap.size) (by omega) (arr .u32 (words bs))
  have m2 := (k2.alloc (.cells (arr .u32 [0, 0, 0, 0, 0, 0, 0, 0, 0, 0, 0, 0, 0, 0, 0, 0]) 69)).setRow_other (g' := w4.heap.size) (by omega) (arr .u32 (words bs))
  have b5 : Below w.heap.size w ((w4.alloc (.cells (arr .u32 [0, 0, 0, 0, 0, 0, 0, 0, 0, 0, 0, 0, 0, 0, 0, 0]) 69)).setRow w4.heap.size (arr .u32 (words bs))) := (b4.alloc (by omega) _).grown (grown_setRow _ _ _) (by simp; omega) (fun r e => by cases e; omega)
  have T5 : Tab ((w4.alloc (.cells (arr .u32 [0, 0, 0, 0, 0, 0, 0, 0, 0, 0, 0, 0, 0, 0, 0, 0]) 69)).setRow w4.heap.size (arr .u32 (words bs))) 1 Sum.K :=
    T4.below (B := w4.heap.size) (((Below.refl _ _).alloc (Nat.le_refl _) _).grown (grown_setRow _ _ _) (by simp) (fun r e => by cases e; omega)) T4.lt
  clear k0 k1 k2 n5 b4 T4
  obtain ⟨a, b, c, d, e, f, g, h, rfl, ra, rb, rc, rd, re, rf, rg, rh⟩ := hv.out
  have c0 := m0.cell (i := 0) (by simp)
  have c1 := m0.cell (i := 1) (by simp)
  have c2 := m0.cell (i := 2) (by simp)
  have c3 := m0.cell (i := 3) (by simp)
  have c4 := m0.cell (i := 4) (by simp)
  have c5 := m0.cell (i := 5) (by simp)
  have c6 := m0.cell (i := 6) (by simp)
  have c7 := m0.cell (i := 7) (by simp)
  simp only [List.getD_eq_getElem?_getD, List.getElem?_cons_zero, List.getElem?_cons_succ, Option.getD_some] at c0 c1 c2 c3 c4 c5 c6 c7
  obtain ⟨w5, hw5⟩ : ∃ w5, (w4.alloc (.cells (arr .u32 [0, 0, 0, 0, 0, 0, 0, 0, 0, 0, 0, 0, 0, 0, 0, 0]) 69)).setRow w4.heap.size (arr .u32 (words bs)) = w5 := ⟨_, rfl⟩
  have hww : (w4.alloc (Obj.cells #[Value.int IntKind.u32 0, Value.int IntKind.u32 0, Value.int IntKind.u32 0, Value.int IntKind.u32 0, Value.int IntKind.u32 0, Value.int IntKind.u32 0, Value.int IntKind.u32 0, Value.int IntKind.u32 0, Value.int IntKind.u32 0, Value.int IntKind.u32 0, Value.int IntKind.u32 0, Value.int IntKind.u32 0, Value.int IntKind.u32 0, Value.int IntKind.u32 0, Value.int IntKind.u32 0, Value.int IntKind.u32 0] 69)).setRow w4.heap.size (arr .u32 (words bs)) = w5 := hw5
  rw [hw5] at m5 m0 m2 b5 T5 c0 c1 c2 c3 c4 c5 c6 c7
  rw [hww]
  clear hw5 hww
  go_quiet (fail)
  go_wp2_with fail
  go_quiet (fail)
  go_wp2_with fail
  go_step3
  go_wp2_with fail
  generalize hw6 : (w5.drewN _).drewN _ = w6
  have m0 : Row w6 w.heap.size 53 .u32 [a, b, c, d, e, f, g, h] := by rw [← hw6]; exact m0
  have m2 : Row w6 (w.heap.size + 1 + 1) 53 .u32 [0, 0, 0, 0, 0, 0, 0, 0] := by rw [← hw6]; exact m2
  have m5 : Row w6 w4.heap.size 69 .u32 (words bs) := by rw [← hw6]; exact m5
  have b6 : Below w.heap.size w w6 := by rw [← hw6]; exact below_drewN (below_drewN b5 _) _
  have T6 : Tab w6 1 Sum.K := by rw [← hw6]; exact T5
  clear hw6 c0 c1 c2 c3 c4 c5 c6 c7 b5 T5
  generalize w4.heap.size = p5 at m5 s4 ⊢
  have hv8 := Lib.hid hv
  have RS := Lib.hid (Rolled.start bs)
  clear hv
  go_loopw [6, 7, 8, 9, 10, 11, 12, 13, 40] (fun a' b' c' d' e' f' g' h' i wr => ∃ k : Nat, k ≤ 64 ∧ i = .int .i64 k ∧ Below w.heap.size w wr ∧ Tab wr 1 Sum.K ∧ Row wr w.heap.size 53 .u32 [a, b, c, d, e, f, g, h] ∧
    Row wr (w.heap.size + 1 + 1) 53 .u32 [0, 0, 0, 0, 0, 0, 0, 0] ∧ (∃ nx, Row wr p5 69 .u32 nx ∧ Hid (Rolled bs k nx)) ∧
    ∃ x0 x1 x2 x3 x4 x5 x6 x7 : Int, Hid (Sum.rounds (Sum.W bs) k [a, b, c, d, e, f, g, h] = [x0, x1, x2, x3, x4, x5, x6, x7]) ∧ a' = .int .u32 x0 ∧ b' = .int .u32 x1 ∧ c' = .int .u32 x2 ∧ d' = .int .u32 x3 ∧ e' = .int .u32 x4 ∧ f' = .int .u32 x5 ∧ g' = .int .u32 x6 ∧ h' = .int .u32 x7)
    (fun _ _ _ _ _ _ _ _ i _ => 64 - (intOf i).toNat)
  case atStart => exact ⟨0, by omega, rfl, b6, T6, m0, m2, ⟨_, m5, RS⟩, _, _, _, _, _, _, _, _, Lib.hid rfl, rfl, rfl, rfl, rfl, rfl, rfl, rfl, rfl⟩
  case round =>
    clear m0 m2 m5 b6 T6 RS
    obtain ⟨k, hk, rfl, hbl, hT, q0, q2, ⟨nx, q5, hro⟩, x0, x1, x2, x3, x4, x5, x6, x7, hx, rfl, rfl, rfl, rfl, rfl, rfl, rfl, rfl⟩ := hrel
    have h8 := hv8.out.rounds (Sum.W bs) k
    rw [hx.out] at h8
    have rx : ∀ z ∈ [x0, x1, x2, x3, x4, x5, x6, x7], R32 z := h8.2
    simp only [List.mem_cons, List.mem_nil_iff, or_false, forall_eq_or_imp, forall_eq] at rx
    obtain ⟨y0, y1, y2, y3, y4, y5, y6, y7⟩ := rx
    clear h8
    by_cases hlt : k < 64
    · have HR := Lib.hid (show Sum.rounds (Sum.W bs) (k + 1) [a, b, c, d, e, f, g, h] = Sum.round (Sum.K.getD k 0) ((Sum.W bs).getD k 0) [x0, x1, x2, x3, x4, x5, x6, x7] by rw [Sum.rounds, hx.out])
      have rK := r32_K k
      have rW := r32_W hb k
      have hK := hT.cell (i := k) (by rw [K_length]; exact hlt)
      have hN := q5.cell (i := k % 16) (by rw [hro.out.1]; omega)
      rw [hro.out.cur hlt] at hN
      have hlt' : (k : Int) < 64 := by omega
      have hk0 : (0 : Int) ≤ (k : Int) := by omega
      generalize Sum.K.getD k 0 = kk at hK rK HR
      have hm : k % 16 < 16 := Nat.mod_lt _ (by omega)
      have EM := Lib.hid (show (k : Int) % 16 = ((k % 16 : Nat) : Int) by omega)
      by_cases h48 : k < 48
      · have HS := Lib.hid (hro.out.step h48)
        rw [hro.out.cur hlt] at HS
        have g1 := q5.cell (i := (k % 16 + 1) % 16) (by rw [hro.out.1]; omega)
        have g9 := q5.cell (i := (k % 16 + 9) % 16) (by rw [hro.out.1]; omega)
        have g14 := q5.cell (i := (k % 16 + 14) % 16) (by rw [hro.out.1]; omega)
        have fr := q5.frozen (k % 16)
        have z1 : R32 (nx.getD ((k % 16 + 1) % 16) 0) := by
          rw [show (k % 16 + 1) % 16 = (k + 1) % 16 by omega, hro.out.2 (k + 1) (by omega) (by omega)]; exact r32_W hb _
        have z14 : R32 (nx.getD ((k % 16 + 14) % 16) 0) := by
          rw [show (k % 16 + 14) % 16 = (k + 14) % 16 by omega, hro.out.2 (k + 14) (by omega) (by omega)]; exact r32_W hb _
        generalize (Sum.W bs).getD k 0 = ww at hN rW HR HS
        generalize nx.getD ((k % 16 + 1) % 16) 0 = e1 at g1 z1 HS
        generalize nx.getD ((k % 16 + 9) % 16) 0 = e9 at g9 HS
        generalize nx.getD ((k % 16 + 14) % 16) 0 = e14 at g14 z14 HS
        have h48' : ¬ (48 : Int) ≤ (k : Int) := by omega
        go_wp2_with fail
        go_quiet ((first | (go_at_call 39; exact quiet_same (turned_any x4 6 11 25 _ y4 (by omega) (by omega) (by omega))) | (go_at_call 40; exact quiet_same (choice_any x4 x5 x6 _))))
        go_wp2_with (first
          | (go_at_call 39; refine (turned_any x0 2 13 22 _ y0 (by omega) (by omega) (by omega)).mono ?_; rintro e w' ⟨rfl, rfl⟩)
          | (go_at_call 41; refine (majority_any x0 x1 x2 _).mono ?_; rintro e w' ⟨rfl, rfl⟩))
        rw [EM.out]
        generalize k % 16 = m at hN g1 g9 g14 fr hm HS
        go_quiet (fail)
        go_wp2_with fail
        generalize hw7 : (wr.drewN _).drewN _ = w7
        have hst : Still wr w7 := by rw [← hw7]; exact ((Still.refl _).drewN _).drewN _
        have g0' := (hst.cell _).trans hN
        have g9' := (hst.cell _).trans g9
        have fr' : w7.frozen? ⟨p5, m, none⟩ = false := by rw [← hw7]; exact fr
        clear hw7
        have hmi : (m : Int) < 16 := by omega
        have hm0 : (0 : Int) ≤ (m : Int) := by omega
        have w9 : (IntKind.i64.wrap ((m : Int) + 9)).tmod 16 = (((m + 9) % 16 : Nat) : Int) := by
          rw [IntWalk.i64_in _ (by omega), Int.tmod_eq_emod_of_nonneg (by omega)]; omega
        have hj : (m + 9) % 16 < 16 := by omega
        generalize (m + 9) % 16 = j at g9' HS w9 hj
        have hji : (j : Int) < 16 := by omega
        have hj0 : (0 : Int) ≤ (j : Int) := by omega
        have u1 : ∀ x y : Int, IntKind.u32.wrap (x + y) = addI x y := fun x y => by rw [IntKind.wrap_u32]; rfl
        go_still_tail 16, (by kernel_rfl)
        still_call (still_of (shifted_any e1 7 18 3 _ z1 (by omega) (by omega) (by omega)))
        repeat still_step
        still_call (still_of (shifted_any e14 17 19 10 _ z14 (by omega) (by omega) (by omega)))
        repeat still_step
        refine wpStill_nil ?_
        change wpList _ _ _ _ _ w7.drew
        clear u1 w9
        have hbl7 := hbl.trans (hst.below w.heap.size)
        have T7 := tab_still hst hT
        have q07 := row_still hst q0
        have q27 := row_still hst q2
        have q57 := row_still hst q5
        go_wp2_with fail
        go_roundw
        case rel =>
          refine ⟨k + 1, by omega, by go_num, (hbl7.setCell (by simp; omega) _).drew, tab_set T7 (by simp; omega) _, q07.other (by simp; omega) _, q27.other (by simp; omega) _, ⟨_, q57.set m (wf_u32 (r32_add _ _)), HS⟩, _, _, _, _, _, _, _, _, Lib.hid ?_, rfl, rfl, rfl, rfl, rfl, rfl, rfl, rfl⟩
          rw [HR.out]
          simp only [Sum.round, sum_e, sum_a]
        case measure => simp [intOf]; omega
      · have HS := Lib.hid (hro.out.late (k := k) (by omega))
        generalize (Sum.W bs).getD k 0 = ww at hN rW HR
        have h48' : (48 : Int) ≤ (k : Int) := by omega
        go_wp2_with fail
        go_quiet ((first | (go_at_call 39; exact quiet_same (turned_any x4 6 11 25 _ y4 (by omega) (by omega) (by omega))) | (go_at_call 40; exact quiet_same (choice_any x4 x5 x6 _))))
        go_wp2_with (first
          | (go_at_call 39; refine (turned_any x0 2 13 22 _ y0 (by omega) (by omega) (by omega)).mono ?_; rintro e w' ⟨rfl, rfl⟩)
          | (go_at_call 41; refine (majority_any x0 x1 x2 _).mono ?_; rintro e w' ⟨rfl, rfl⟩))
        go_roundw
        case rel =>
          refine ⟨k + 1, by omega, by go_num, below_drewN hbl _, hT, q0, q2, ⟨_, q5, HS⟩, _, _, _, _, _, _, _, _, Lib.hid ?_, rfl, rfl, rfl, rfl, rfl, rfl, rfl, rfl⟩
          rw [HR.out]
          simp only [Sum.round, sum_e, sum_a, Int.emod_add_emod, Int.add_emod_emod]
        case measure => simp [intOf]; omega
    · have hk64 : k = 64 := by omega
      subst hk64
      clear hro q5
      go_wp2_with fail
      have HB := Lib.hid (show sumUp [a, b, c, d, e, f, g, h] [x0, x1, x2, x3, x4, x5, x6, x7] = Sum.block [a, b, c, d, e, f, g, h] bs by unfold Sum.block; rw [hx.out])
      have Q0 : Row wr w.heap.size 53 .u32 (sumPart [a, b, c, d, e, f, g, h] [x0, x1, x2, x3, x4, x5, x6, x7] 0) := by rw [sumPart_start _ rfl]; exact q0
      clear q0 hx hv8 hT y0 y1 y2 y3 y4 y5 y6 y7
      go_loopw [119] (fun i ws => ∃ k : Nat, k ≤ 8 ∧ i = .int .i64 k ∧ Below w.heap.size w ws ∧ Row ws w.heap.size 53 .u32 (sumPart [a, b, c, d, e, f, g, h] [x0, x1, x2, x3, x4, x5, x6, x7] k) ∧
        Row ws (w.heap.size + 1 + 1) 53 .u32 [0, 0, 0, 0, 0, 0, 0, 0]) (fun i _ => 8 - (intOf i).toNat)
      case atStart => exact ⟨0, by omega, rfl, hbl, Q0, q2⟩
      case round =>
        clear Q0 q2 hbl
        obtain ⟨k, hk, rfl, hbl, q0, q2⟩ := hrel
        by_cases hlt : k < 8
        · have hidx : ∀ W, (Instr.index 53 (.agg #[.int .u32 x0, .int .u32 x1, .int .u32 x2, .int .u32 x3, .int .u32 x4, .int .u32 x5, .int .u32 x6, .int .u32 x7]) (.int .i64 (k : Int))).run Tryd.prog W = .ok (.int .u32 ([x0, x1, x2, x3, x4, x5, x6, x7].getD k 0)) W :=
            fun W => run_index_arr _ 50 8 .u32 [x0, x1, x2, x3, x4, x5, x6, x7] k W Tryd.underlying53 (by kernel_rfl) (by kernel_rfl) rfl hlt
          have hc := q0.cell (i := k) (by rw [sumPart_length]; exact hlt)
          rw [sumPart_get _ _ hlt, if_neg (by omega)] at hc
          have hf := q0.frozen k
          have HS := Lib.hid (show Row (wr.setCell ⟨w.heap.size, k, none⟩ (.int .u32 (addI ([a, b, c, d, e, f, g, h].getD k 0) ([x0, x1, x2, x3, x4, x5, x6, x7].getD k 0)))) w.heap.size 53 .u32 (sumPart [a, b, c, d, e, f, g, h] [x0, x1, x2, x3, x4, x5, x6, x7] (k + 1)) by
            rw [sumPart_step _ _ hlt]; exact q0.set _ (wf_u32 (r32_add _ _)))
          have hlt' : (k : Int) < 8 := by omega
          have hk0 : (0 : Int) ≤ (k : Int) := by omega
          generalize [a, b, c, d, e, f, g, h].getD k 0 = x at hc HS
          generalize [x0, x1, x2, x3, x4, x5, x6, x7].getD k 0 = y at hidx HS
          go_wp2_with fail
          go_roundw
          case rel => exact ⟨k + 1, by omega, by go_num, hbl.setCell (Nat.le_refl _) _, HS.out, q2.other (by simp; omega) _⟩
          case measure => simp [intOf]; omega
        · have hk8 : k = 8 := by omega
          subst hk8
          rw [sumPart_end, HB.out] at q0
          have L8 : (Sum.block [a, b, c, d, e, f, g, h] bs).length = 8 := (Eight.sumUp _ _).1
          have L8h := Lib.hid L8
          clear L8
          go_wp2_with (first
            | (refine wpList_load_Row rfl 53 _ rfl w.heap.size rfl 53 .u32 _ q0 8 50 Tryd.underlying53 info_8 L8h.out ?_)
            | (refine wpList_store_Row rfl 53 _ _ rfl (w.heap.size + 1 + 1) rfl 53 .u32 _ _ rfl q2 8 info_8 L8h.out rfl ?_))
          have q4 := q2.setRow q0.1
          try rw [Exit.noGoto_ret]
          refine bodyPost_ret (v := .agg (arr .u32 (Sum.block [a, b, c, d, e, f, g, h] bs))) (results_Row rfl _ _ (w.heap.size + 1 + 1) _ _ _ rfl q4 8 50 Tryd.underlying53 info_8 L8h.out) rfl ?_
          exact ⟨rfl, hbl.grown (grown_setRow _ _ _) hbl.size (fun r e => by cases e; omega)⟩
end Go.Proofs.YtbfdhbobokfbhaaDoor.Sha

