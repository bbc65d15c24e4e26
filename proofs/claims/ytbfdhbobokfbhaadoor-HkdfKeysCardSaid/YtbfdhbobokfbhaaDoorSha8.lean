/-
  The function Sum of package sha by its contract: SHA-256 of all parts, one behind the other. Conditions: at most 2^30 parts, of at most 2^40 bytes together; the two tables lie where the program's text lays them.
-/
import Derived.Test.YtbfdhbobokfbhaaDoorSha7
namespace Go.Proofs.YtbfdhbobokfbhaaDoor.Sha
open Go.RowKit Go.Shelf Go.Proofs.YtbfdhbobokfbhaaDoor.Mem Go.Proofs.YtbfdhbobokfbhaaDoor.Help Go.Proofs.YtbfdhbobokfbhaaDoor.Sum Go.Proofs.YtbfdhbobokfbhaaDoor.Range
set_option linter.unusedVariables false
attribute [local go_sem] Oper.semAt_some

theorem prefix_next {m : List Int} {pre : List (List Int)} {x : List Int} (h : (pre ++ [x]) <+: chunks m) : pre.length < m.length / 64 ∧ x = (m.drop (64 * pre.length)).take 64 := by
  obtain ⟨r, hr⟩ := h
  have hl := congrArg List.length hr
  rw [chunks_length] at hl
  simp at hl
  have hlt : pre.length < m.length / 64 := by omega
  refine ⟨hlt, ?_⟩
  have := congrArg (fun l => l[pre.length]?) hr
  simp [chunks, hlt] at this
  exact this

/-- the first 4 * i bytes of a sum -/
def outPart (h : List Int) (i : Nat) : List Int := (List.range 32).map fun j => if j < 4 * i then (outB h).getD j 0 else 0
theorem outPart_length (h : List Int) (i : Nat) : (outPart h i).length = 32 := by simp [outPart]
theorem outPart_start (h : List Int) : outPart h 0 = List.replicate 32 0 := by
  unfold outPart
  rw [List.map_congr_left (g := fun _ => (0 : Int)) (fun j _ => by rw [if_neg (by omega)])]
  rfl
theorem outPart_end (h : List Int) : outPart h 8 = outB h := by
  apply List.ext_getElem (by simp [outPart, outB])
  intro i h1 h2
  simp only [outPart_length] at h1
  simp [outPart, List.getD_eq_getElem?_getD, h2, show i < 4 * 8 by omega]
theorem outPart_step (h : List Int) {i : Nat} (hi : i < 8) : putL (outPart h i) (4 * i) 4 (h.getD i 0) 4 = outPart h (i + 1) := by
  apply List.ext_getElem (by rw [putL_length, outPart_length, outPart_length])
  intro j h1 h2
  rw [putL_length, outPart_length] at h1
  have hg : ∀ q, (outPart h q)[j]? = some (if j < 4 * q then (outB h).getD j 0 else 0) := fun q => by simp [outPart, h1]
  simp only [putL, List.getElem_map, List.getElem_range]
  have e2 : (outPart h (i + 1))[j] = if j < 4 * (i + 1) then (outB h).getD j 0 else 0 := by
    have := hg (i + 1)
    rw [List.getElem?_eq_getElem (by rw [outPart_length]; exact h1)] at this
    exact Option.some.inj this
  have e3 : (outPart h i).getD j 0 = if j < 4 * i then (outB h).getD j 0 else 0 := by rw [List.getD_eq_getElem?_getD, hg i, Option.getD_some]
  rw [e2, e3]
  by_cases q : 4 * i + 4 - 4 ≤ j ∧ j < 4 * i + 4
  · rw [if_pos q, if_pos (by omega)]
    have ej : j / 4 = i := by omega
    simp [outB, List.getD_eq_getElem?_getD, h1, ej]
    congr 3
    omega
  · rw [if_neg q]
    by_cases z : j < 4 * i
    · rw [if_pos z, if_pos (by omega)]
    · rw [if_neg z, if_neg (by omega)]

theorem info_32 : (Tryd.prog.info? 25).map (·.size) = some 32 := by kernel_rfl
theorem eight_wf {v : List Int} (h : Eight v) : ∀ z ∈ v, (Lit.int .u32 z).wf = true := fun z hz => wf_u32 (h.2 z hz)

/-- what stands between two rounds -/
def Inv (w : World) (msg : List Int) (pre : List (List Int)) (W : World) : Prop :=
  Row W (w.heap.size + 1) 53 .u32 (blocksI msg pre.length) ∧ Row W w.heap.size 25 .u8 (List.replicate 32 0) ∧ Below w.heap.size w W
theorem Inv.far (w : World) (msg : List Int) {B : Nat} (hB : w.heap.size + 2 ≤ B) : Far B (Inv w msg) := by
  intro pre W W' row h hg hr
  have hne : ∀ i, i < B → some i ≠ row := fun i hi e => by have := hr i e.symm; omega
  refine ⟨h.1.grown hg (hne _ (by omega)), h.2.1.grown hg (hne _ (by omega)), h.2.2.grown hg (by have := h.1.lt; omega) (fun r e => by have := hr r e; omega)⟩

set_option maxRecDepth 100000 in
set_option maxHeartbeats 2000000 in
theorem sum_any (B : Nat) (A : Option Addr) (m c : Nat) (vs : List Value) (xss : List (List Int)) (w : World) (h : Vals w B A m vs) (ht : Texts w B vs xss) (hB : B ≤ w.heap.size) (hm : m ≤ 1073741824) (hn : xss.flatten.length ≤ 1099511627776)
    (hb : Bs xss.flatten) (hT0 : Tab w 0 Sum.H0) (hT1 : Tab w 1 Sum.K) :
    Calls Tryd.prog 30 #[.slice A m c] w fun e w' => e = .returned (.agg (arr .u8 (Sum.sha xss.flatten))) ∧ Below w.heap.size w w' := by
  refine (callsIn_wide (n := 3)).1 ?_
  obtain ⟨t0, fr0, hg0⟩ := hT0
  have l0 := (Array.getElem?_eq_some_iff.1 hg0).1
  have hg1 : ∀ o, (w.alloc o).heap[(0 : Nat)]? = some (.cells (arr .u32 Sum.H0) t0 fr0) := fun o => (Below.heap_alloc w o _ l0).trans hg0
  refine callsIn_of_wp_marks Tryd.func30 rfl trivial ?_ rfl
  simp only [Tryd.ntmps30, List.size_toArray, List.length_cons, List.length_nil, Nat.reduceAdd, Nat.reduceSub, Array.replicate_succ, Array.replicate_zero, List.push_toArray, List.append_toArray, List.nil_append, List.cons_append]
  have n1 : Row ((w.alloc (.cells (arr .u8 (List.replicate 32 0)) 25)).alloc (.cells (arr .u32 (List.replicate 8 0)) 53)) (w.heap.size + 1) 53 .u32 (List.replicate 8 0) := by
    have := Row.new (zs := List.replicate 8 0) (k := .u32) (w.alloc (.cells (arr .u8 (List.replicate 32 0)) 25)) 53 (fun z hz => by rw [List.eq_of_mem_replicate hz]; rfl)
    rwa [World.size_alloc] at this
  have n0 := (Row.new (zs := List.replicate 32 0) (k := .u8) w 25 (fun z hz => by rw [List.eq_of_mem_replicate hz]; rfl)).alloc (.cells (arr .u32 (List.replicate 8 0)) 53)
  gi_wp2_with (first
    | (refine wpListIn_load_arr rfl 53 _ rfl 0 rfl t0 fr0 .u32 Sum.H0 (hg1 _) 8 50 Tryd.underlying53 info_8 rfl ?_)
    | (refine wpListIn_store_Row rfl 53 _ _ rfl (w.heap.size + 1) rfl 53 .u32 _ Sum.H0 rfl n1 8 info_8 rfl rfl ?_))
  have m1 := n1.setRow (eight_wf eight_H0)
  have m0 := n0.setRow_other (g' := w.heap.size + 1) (by omega) (arr .u32 Sum.H0)
  have b2 : Below w.heap.size w (((w.alloc (.cells (arr .u8 (List.replicate 32 0)) 25)).alloc (.cells (arr .u32 (List.replicate 8 0)) 53)).setRow (w.heap.size + 1) (arr .u32 Sum.H0)) :=
    (((Below.refl _ w).alloc (Nat.le_refl _) _).alloc (by simp) _).grown (grown_setRow _ _ _) (by simp; omega) (fun r e => by cases e; omega)
  have z2 : (((w.alloc (.cells (arr .u8 (List.replicate 32 0)) 25)).alloc (.cells (arr .u32 (List.replicate 8 0)) 53)).setRow (w.heap.size + 1) (arr .u32 Sum.H0)).heap.size = w.heap.size + 2 := by simp
  obtain ⟨W2, hW2⟩ : ∃ W2, ((w.alloc (.cells (arr .u8 (List.replicate 32 0)) 25)).alloc (.cells (arr .u32 (List.replicate 8 0)) 53)).setRow (w.heap.size + 1) (arr .u32 Sum.H0) = W2 := ⟨_, rfl⟩
  rw [hW2] at m1 m0 b2 z2
  refine ⟨trivial, ?_⟩
  refine (callsIn_wide.2 (blocks_any A m c _)).mono ?_
  rintro e W3 ⟨rfl, hW3⟩
  have e3 : W3 = W2.alloc (.cells #[.slice A m c] 43) := by rw [hW3, ← hW2]; rfl
  clear hW3 hW2 n1 n0 hg1 hg0
  have hz3 : W3.heap.size = w.heap.size + 2 + 1 := by rw [e3, World.size_alloc, z2]
  have h3 : W3.cell? ⟨w.heap.size + 2, 0, none⟩ = some (.slice A m c) := by
    rw [e3, ← z2, cell_of_row _ _ 0 _ _ (0, 0) (heap_alloc_new W2 _)]; rfl
  have b3 : Below w.heap.size w W3 := by rw [e3]; exact b2.alloc (by omega) _
  have m13 : Row W3 (w.heap.size + 1) 53 .u32 Sum.H0 := by rw [e3]; exact m1.alloc _
  have m03 : Row W3 w.heap.size 25 .u8 (List.replicate 32 0) := by rw [e3]; exact m0.alloc _
  have p3 := (h.below (b3.mono hB))
  have T3 := (ht.below (b3.mono hB))
  have K3 := hT1.below b3 hT1.lt
  have lk := hT1.lt
  clear e3 m1 m0 b2 z2 h ht W2
  have hwf : W3.heap.size = w.heap.size + 3 := hz3
  have hne : ∀ i, w.heap.size + 2 ≤ i → i ≠ w.heap.size + 1 := fun i h e => by omega
  obtain ⟨msg, hmsg⟩ : ∃ msg, xss.flatten ++ padI xss.flatten.length = msg := ⟨_, rfl⟩
  have hit := fun n => iter_far n (w.heap.size + 1) (w.heap.size + 1 + 1) B A m c vs xss W3 h3 p3 T3 (by omega) (by omega) hm hn
  simp only [hmsg] at hit
  have hMB : Bs msg := fun z hz => by
    rw [← hmsg] at hz
    rcases List.mem_append.1 hz with h | h
    · exact hb z h
    · exact pad_bytes _ z h
  have HS := Lib.hid (show Sum.sha xss.flatten = outB (blocksI msg (msg.length / 64)) by
    unfold Sum.sha
    rw [hmsg, ← List.length_append, hmsg])
  clear hmsg hb hn
  gi_wp2_with fail
  refine wpIn_rangeFunc_far rfl (by omega) (gf := 36) (lb := #[.pointer (some ⟨w.heap.size + 1 + 1, 0, none⟩)]) rfl trivial (enters_of Tryd.func36 (by kernel_rfl) rfl)
    (hit _) (fun h k => h.trans k) (fun W l o o' hl ho hc _ => Only.put W l o o' ho hc) (Below.refl _ _) (fun _ => rfl)
    (Inv w msg) (Inv.far w _ (by omega)) ⟨m13, m03, b3⟩
    (fun x a' pre W => Inv w msg pre W ∧ ∃ Bx, w.heap.size + 3 ≤ Bx ∧ Row W Bx 44 .u8 x ∧ a' = { tmps := #[.slice A m c, undef, .pointer (some ⟨w.heap.size, 0, none⟩), .pointer (some ⟨w.heap.size + 1, 0, none⟩), .pointer (some ⟨Bx, 0, none⟩), undef, undef, undef, .agg (arr .u32 Sum.H0), .slice A m c, .func (.func 36) #[] #[.pointer (some ⟨w.heap.size + 1 + 1, 0, none⟩)], .agg (arr .u8 x), undef, undef, undef, undef, undef, undef, undef, undef, undef, undef, undef, undef, undef, undef, undef, undef, undef, undef, undef], defers := [] }) ?ib ?assign ?body ?done
  case ib =>
    rintro x a' pre W W' row ⟨hi, Bx, h1, h2, h3⟩ hg hr
    refine ⟨Inv.far w _ (B := w.heap.size + 2) (Nat.le_refl _) pre W W' row hi hg (fun r e => by have := (hr r e).1; omega), Bx, h1, h2.grown hg (fun e => ?_), h3⟩
    obtain ⟨_, o, ho, hc⟩ := hr Bx e.symm
    rw [h2.2] at ho
    cases ho
    cases hc
  case assign =>
    intro l pre x W K hi hp hsz hK
    have hx := chunks_mem (hp.subset (by simp) : x ∈ chunks msg)
    have hxw : ∀ z ∈ x, (Lit.int .u8 z).wf = true := fun z hz => by
      have hz' := hMB z (hx.2 z hz)
      simp [Lit.wf, IntKind.min, IntKind.max, IntKind.signed, IntKind.bits]; omega
    have HXL := Lib.hid hx.1
    have nw := Row.new (zs := List.replicate 64 0) (k := .u8) W 44 (fun z hz => by rw [List.eq_of_mem_replicate hz]; rfl)
    clear hx
    gi_wp2_with (refine wpListIn_store_Row rfl 44 _ _ rfl W.heap.size rfl 44 .u8 _ x rfl nw 64 info_64 HXL.out rfl ?_)
    have bw : Below W.heap.size W ((W.alloc (.cells (arr .u8 (List.replicate 64 0)) 44)).setRow W.heap.size (arr .u8 x)) := ((Below.refl _ W).alloc (Nat.le_refl _) _).grown (grown_setRow _ _ _) (by simp) (fun r e => by cases e; exact Nat.le_refl _)
    refine hK _ _ ((KeepsOthers.alloc _ _).trans (KeepsOthers.of_grownBy (grown_setRow _ _ _) (fun j o e ho => ?_))) (Only.of_below bw) ⟨Inv.far w _ (B := w.heap.size + 2) (Nat.le_refl _) pre W _ none hi (grown_of_below bw none) (fun r e => by cases e), W.heap.size, by omega, nw.setRow hxw, rfl⟩
    cases e
    obtain rfl := Option.some.inj (nw.2.symm.trans ho)
    rfl
  case body =>
    rintro l pre x a' W ⟨⟨i1, i0, ib⟩, Bx, hBx, hrx, rfl⟩ hp hsz
    have hx := chunks_mem (hp.subset (by simp) : x ∈ chunks msg)
    have hxb : Bs x := fun z hz => hMB z (hx.2 z hz)
    have HXL := Lib.hid hx.1
    have HPN := Lib.hid (prefix_next hp)
    have h8 := eight_blocks msg pre.length
    have H8 := Lib.hid h8.1
    have kT := hT1.below ib lk
    clear hx hp
    gi_wp2_with (first
      | (refine wpListIn_load_Row rfl 53 _ rfl (w.heap.size + 1) rfl 53 .u32 _ i1 8 50 Tryd.underlying53 info_8 H8.out ?_)
      | (refine wpListIn_load_Row rfl 44 _ rfl Bx rfl 44 .u8 _ hrx 64 5 Tryd.underlying44 info_64 HXL.out ?_))
    refine ⟨trivial, ?_⟩
    refine (CallsIn.inRound l (callsIn_wide.2 (fold_any _ x _ h8 hxb HXL.out kT))).mono ?_
    rintro e W4 ⟨rfl, hb4⟩
    have q1 := i1.below hb4 i1.lt
    have q0 := i0.below hb4 i0.lt
    have L8 : (Sum.block (blocksI msg pre.length) x).length = 8 := (Eight.sumUp _ _).1
    have H9 := Lib.hid L8
    clear L8
    gi_wp2_with (refine wpListIn_store_Row rfl 53 _ _ rfl (w.heap.size + 1) rfl 53 .u32 _ _ rfl q1 8 info_8 H9.out H8.out ?_)
    have e9 : blocksI msg (pre ++ [x]).length = Sum.block (blocksI msg pre.length) x := by
      rw [List.length_append, List.length_singleton, blocksI, ← HPN.out.2]
    have r1 := q1.setRow (eight_wf (Eight.sumUp (blocksI msg pre.length) (Sum.rounds (Sum.W x) 64 (blocksI msg pre.length))))
    refine ⟨(KeepsOthers.of_grownBy (grown_of_below hb4 none) (fun j o e => by cases e)).trans (KeepsOthers.of_grownBy (grown_setRow _ _ _) (fun j o e ho => ?_)),
      (Only.of_below hb4).trans (Only.of_grown (grown_setRow _ _ _) (fun r e => by cases e; rfl)), ?_, q0.setRow_other (by omega) _, (ib.trans (hb4.mono (by omega))).grown (grown_setRow _ _ _) (by have := hb4.size; omega) (fun r e => by cases e; omega)⟩
    · cases e
      obtain rfl := Option.some.inj (q1.2.symm.trans ho)
      rfl
    · rw [e9]; exact r1
  case done =>
    intro D W hD ⟨i1, i0, ib⟩ hDl
    rw [chunks_length] at i1
    have h8 := eight_blocks msg (msg.length / 64)
    generalize blocksI msg (msg.length / 64) = hh at i1 HS h8
    have H8 := Lib.hid h8.1
    have ls := i1.lt
    have b1 := i1.alloc (.cells (arr .u8 (List.replicate 32 0)) 25)
    have b0 := i0.alloc (.cells (arr .u8 (List.replicate 32 0)) 25)
    have bb := ib.alloc (by omega) (.cells (arr .u8 (List.replicate 32 0)) 25)
    have bn := Row.new (zs := List.replicate 32 0) (k := .u8) W 25 (fun z hz => by rw [List.eq_of_mem_replicate hz]; rfl)
    have bD := (Below.heap_alloc W (.cells (arr .u8 (List.replicate 32 0)) 25) D (Array.getElem?_eq_some_iff.1 hDl).1).trans hDl
    gi_wp2_with (refine wpListIn_load_Row rfl 53 _ rfl (w.heap.size + 1) rfl 53 .u32 _ b1 8 50 Tryd.underlying53 info_8 H8.out ?_)
    have gS := W.heap.size
    rw [← outPart_start hh] at bn
    gi_loopw [16] (fun i wr => ∃ k : Nat, k ≤ 8 ∧ i = .int .i64 k ∧ wr.heap[D]? = some (.deferred (some [])) ∧ Row wr W.heap.size 25 .u8 (outPart hh k) ∧ Row wr w.heap.size 25 .u8 (List.replicate 32 0) ∧ Below w.heap.size w wr) (fun i _ => 8 - (intOf i).toNat)
    case atStart => exact ⟨0, by omega, rfl, bD, bn, b0, bb⟩
    case round =>
      clear bD bn b0 bb b1 i1 i0 ib hDl
      obtain ⟨k, hk, rfl, dD, rn, r0, rb⟩ := hrel
      have hDW : D ≠ W.heap.size := fun e => by
        have := rn.2
        rw [← e, dD] at this
        cases this
      by_cases hlt : k < 8
      · have hidx := fun W' => run_index_arr (P := Tryd.prog) 53 50 8 .u32 hh k W' Tryd.underlying53 (by kernel_rfl) (by kernel_rfl) H8.out hlt
        have hsl : ∀ W', (Instr.sliceAt 25 (.pointer (some ⟨W.heap.size, 0, none⟩)) (some (.int .i64 (4 * (k : Int)))) (some (.int .i64 (4 * (k : Int) + 4))) none).run Tryd.prog W' = .ok (.slice (some ⟨W.heap.size, 4 * k, none⟩) 4 (32 - 4 * k)) W' := fun W' => by
          have := run_slice_arr_lh (P := Tryd.prog) 25 5 32 W.heap.size (4 * k) (4 * k + 4) W' Tryd.underlying25 (by kernel_rfl) (by omega) (by omega) (by omega)
          rw [show 4 * k + 4 - 4 * k = 4 by omega] at this
          exact_mod_cast this
        have hx : R32 (hh.getD k 0) := by
          rw [List.getD_eq_getElem?_getD, List.getElem?_eq_getElem (by rw [H8.out]; exact hlt)]
          exact h8.2 _ (List.getElem_mem _)
        have HST := Lib.hid (outPart_step hh hlt)
        have hlt' : (k : Int) < 8 := by omega
        have hk0 : (0 : Int) ≤ (k : Int) := by omega
        have hx1 := hx.1
        have hx2 := hx.2
        generalize hh.getD k 0 = x at hidx hx1 hx2 hx HST
        gi_wp2_with fail
        refine ⟨trivial, ?_⟩
        refine (callsIn_wide.2 (put_any W.heap.size (4 * k) 4 _ _ _ x _ (by omega) (by omega) rn (by rw [outPart_length]; omega) (by omega))).mono ?_
        rintro e W5 ⟨rfl, r5, g5⟩
        rw [HST.out] at r5
        have dD5 := (g5.block D (Array.getElem?_eq_some_iff.1 dD).1 (fun e => hDW (Option.some.inj e))).trans dD
        have r05 := r0.grown g5 (fun e => by have := Option.some.inj e; omega)
        have rb5 := rb.grown g5 rb.size (fun r e => by cases e; omega)
        gi_wp2_with fail
        go_roundw
        case rel => exact ⟨k + 1, by omega, by go_num, dD5, r5, r05, rb5⟩
        case measure => simp [intOf]; omega
      · have hk8 : k = 8 := by omega
        subst hk8
        rw [outPart_end] at rn
        have HO := Lib.hid (out_length hh)
        gi_wp2_with (first
          | (refine wpListIn_load_Row rfl 25 _ rfl W.heap.size rfl 25 .u8 _ rn 32 5 Tryd.underlying25 info_32 HO.out ?_)
          | (refine wpListIn_store_Row rfl 25 _ _ rfl w.heap.size rfl 25 .u8 _ _ rfl r0 32 info_32 HO.out rfl ?_))
        have r9 := r0.setRow rn.1
        have hD0 : D ≠ w.heap.size := by omega
        have dD9 := (setRow_other wr w.heap.size D (arr .u8 (outB hh)) hD0).trans dD
        refine ⟨by simp, .inl ⟨_, _, rfl, run_takeDeferred dD9, ?_⟩⟩
        have r10 : Row ((wr.setRow w.heap.size (arr .u8 (outB hh))).putObj D (.deferred none)) w.heap.size 25 .u8 (outB hh) := ⟨r9.1, (World.putObj_heap_other (fun e => hD0 e.symm)).trans r9.2⟩
        refine ⟨.agg (arr .u8 (outB hh)), results_Row rfl _ _ w.heap.size _ _ _ rfl r10 32 5 Tryd.underlying25 info_32 HO.out, by rw [HS.out], ?_⟩
        exact (rb.grown (grown_setRow _ _ _) rb.size (fun r e => by cases e; exact Nat.le_refl _)).grown (grownBy_putObj' _ D _) (by have := rb.size; simp; omega) (fun r e => by cases e; omega)
end Go.Proofs.YtbfdhbobokfbhaaDoor.Sha

