/-
  The function Sum of package sha by its contract: SHA-256 of all parts, one behind the other. Conditions: at most 2^30 parts, of at most 2^40 bytes together; the two tables lie where the program's text lays them.
  What the frame of a proof says of a list of texts that came in: a slice of slices that read as lists of bytes. No conditions beyond those stated.
  sha.Sum of parts that the caller has just laid into a list, by its contract. Conditions: the parts read as lists of bytes, of at most 2^40 bytes in all; the two tables lie where the program's text lays them.
  copy into a block that is known whole: no program here. No conditions beyond those stated.
  HMAC as a plain function; the functions fitted and keyed of package mac's beginnings. Conditions: keys of at most 2^40 bytes; the two tables of package sha lie where the program's text lays them.
  The iterator over a first part and all parts behind it, of package mac, by its contract. Conditions beyond those stated: none.
-/
import Derived.Test.YtoelgcdjhekafaaDoorB3
import Derived.Deep.Matrix
import Derived.Laws.CopyOwn
namespace Go.Proofs.YtoelgcdjhekafaaDoor.Sha
open Go.RowKit Go.Shelf Go.Proofs.YtoelgcdjhekafaaDoor.Mem Go.Proofs.YtoelgcdjhekafaaDoor.Help Go.Proofs.YtoelgcdjhekafaaDoor.Sum Go.Proofs.YtoelgcdjhekafaaDoor.Range
set_option linter.unusedVariables false
attribute [local go_sem] Oper.semAt_some

theorem prefix_next {m : List Int} {pre : List (List Int)} {x : List Int} (h : (pre ++ [x]) <+: chunks m) : pre.length < m.length / 64 ∧ x = (m.drop (64 * pre.length)).take 64 := by
  obtain ⟨r, hr⟩ := h
  have hl := congrArg List.length hr
  rw [chunks_length] at hl
  simp at hl
  have hlt : pre.length < m.length / 64 := by omega
  refine ⟨hlt, ?_⟩
  have := congrArg (fun l => l[pre.length]?) hr
  simp [chunks, hlt] at this
  exact this

/-- the first 4 * i bytes of a sum -/
def outPart (h : List Int) (i : Nat) : List Int := (List.range 32).map fun j => if j < 4 * i then (outB h).getD j 0 else 0
theorem outPart_length (h : List Int) (i : Nat) : (outPart h i).length = 32 := by simp [outPart]
theorem outPart_start (h : List Int) : outPart h 0 = List.replicate 32 0 := by
  unfold outPart
  rw [List.map_congr_left (g := fun _ => (0 : Int)) (fun j _ => by rw [if_neg (by omega)])]
  rfl
theorem outPart_end (h : List Int) : outPart h 8 = outB h := by
  apply List.ext_getElem (by simp [outPart, outB])
  intro i h1 h2
  simp only [outPart_length] at h1
  simp [outPart, List.getD_eq_getElem?_getD, h2, show i < 4 * 8 by omega]
theorem outPart_step (h : List Int) {i : Nat} (hi : i < 8) : putL (outPart h i) (4 * i) 4 (h.getD i 0) 4 = outPart h (i + 1) := by
  apply List.ext_getElem (by rw [putL_length, outPart_length, outPart_length])
  intro j h1 h2
  rw [putL_length, outPart_length] at h1
  have hg : ∀ q, (outPart h q)[j]? = some (if j < 4 * q then (outB h).getD j 0 else 0) := fun q => by simp [outPart, h1]
  simp only [putL, List.getElem_map, List.getElem_range]
  have e2 : (outPart h (i + 1))[j] = if j < 4 * (i + 1) then (outB h).getD j 0 else 0 := by
    have := hg (i + 1)
    rw [List.getElem?_eq_getElem (by rw [outPart_length]; exact h1)] at this
    exact Option.some.inj this
  have e3 : (outPart h i).getD j 0 = if j < 4 * i then (outB h).getD j 0 else 0 := by rw [List.getD_eq_getElem?_getD, hg i, Option.getD_some]
  rw [e2, e3]
  by_cases q : 4 * i + 4 - 4 ≤ j ∧ j < 4 * i + 4
  · rw [if_pos q, if_pos (by omega)]
    have ej : j / 4 = i := by omega
    simp [outB, List.getD_eq_getElem?_getD, h1, ej]
    congr 3
    omega
  · rw [if_neg q]
    by_cases z : j < 4 * i
    · rw [if_pos z, if_pos (by omega)]
    · rw [if_neg z, if_neg (by omega)]

theorem info_32 : (Tryd.prog.info? 22).map (·.size) = some 32 := by kernel_rfl
theorem eight_wf {v : List Int} (h : Eight v) : ∀ z ∈ v, (Lit.int .u32 z).wf = true := fun z hz => wf_u32 (h.2 z hz)

/-- what stands between two rounds -/
def Inv (w : World) (msg : List Int) (pre : List (List Int)) (W : World) : Prop :=
  Row W (w.heap.size + 1) 81 .u32 (blocksI msg pre.length) ∧ Row W w.heap.size 22 .u8 (List.replicate 32 0) ∧ Below w.heap.size w W
theorem Inv.far (w : World) (msg : List Int) {B : Nat} (hB : w.heap.size + 2 ≤ B) : Far B (Inv w msg) := by
  intro pre W W' row h hg hr
  have hne : ∀ i, i < B → some i ≠ row := fun i hi e => by have := hr i e.symm; omega
  refine ⟨h.1.grown hg (hne _ (by omega)), h.2.1.grown hg (hne _ (by omega)), h.2.2.grown hg (by have := h.1.lt; omega) (fun r e => by have := hr r e; omega)⟩

set_option maxRecDepth 100000 in
set_option maxHeartbeats 2000000 in
theorem sum_any (B : Nat) (A : Option Addr) (m c : Nat) (vs : List Value) (xss : List (List Int)) (w : World) (h : Vals w B A m vs) (ht : Texts w B vs xss) (hB : B ≤ w.heap.size) (hm : m ≤ 1073741824) (hn : xss.flatten.length ≤ 1099511627776)
    (hb : Bs xss.flatten) (hT0 : Tab w 3 Sum.H0) (hT1 : Tab w 4 Sum.K) :
    Calls Tryd.prog 64 #[.slice A m c] w fun e w' => e = .returned (.agg (arr .u8 (Sum.sha xss.flatten))) ∧ Below w.heap.size w w' := by
  refine (callsIn_wide (n := 3)).1 ?_
  obtain ⟨t0, fr0, hg0⟩ := hT0
  have l0 := (Array.getElem?_eq_some_iff.1 hg0).1
  have hg1 : ∀ o, (w.alloc o).heap[(3 : Nat)]? = some (.cells (arr .u32 Sum.H0) t0 fr0) := fun o => (Below.heap_alloc w o _ l0).trans hg0
  refine callsIn_of_wp_marks Tryd.func64 rfl trivial ?_ rfl
  simp only [Tryd.ntmps64, List.size_toArray, List.length_cons, List.length_nil, Nat.reduceAdd, Nat.reduceSub, Array.replicate_succ, Array.replicate_zero, List.push_toArray, List.append_toArray, List.nil_append, List.cons_append]
  have n1 : Row ((w.alloc (.cells (arr .u8 (List.replicate 32 0)) 22)).alloc (.cells (arr .u32 (List.replicate 8 0)) 81)) (w.heap.size + 1) 81 .u32 (List.replicate 8 0) := by
    have := Row.new (zs := List.replicate 8 0) (k := .u32) (w.alloc (.cells (arr .u8 (List.replicate 32 0)) 22)) 81 (fun z hz => by rw [List.eq_of_mem_replicate hz]; rfl)
    rwa [World.size_alloc] at this
  have n0 := (Row.new (zs := List.replicate 32 0) (k := .u8) w 22 (fun z hz => by rw [List.eq_of_mem_replicate hz]; rfl)).alloc (.cells (arr .u32 (List.replicate 8 0)) 81)
  gi_wp2_with (first
    | (refine wpListIn_load_arr rfl 81 _ rfl 3 rfl t0 fr0 .u32 Sum.H0 (hg1 _) 8 38 Tryd.underlying81 info_8 rfl ?_)
    | (refine wpListIn_store_Row rfl 81 _ _ rfl (w.heap.size + 1) rfl 81 .u32 _ Sum.H0 rfl n1 8 info_8 rfl rfl ?_))
  have m1 := n1.setRow (eight_wf eight_H0)
  have m0 := n0.setRow_other (g' := w.heap.size + 1) (by omega) (arr .u32 Sum.H0)
  have b2 : Below w.heap.size w (((w.alloc (.cells (arr .u8 (List.replicate 32 0)) 22)).alloc (.cells (arr .u32 (List.replicate 8 0)) 81)).setRow (w.heap.size + 1) (arr .u32 Sum.H0)) :=
    (((Below.refl _ w).alloc (Nat.le_refl _) _).alloc (by simp) _).grown (grown_setRow _ _ _) (by simp; omega) (fun r e => by cases e; omega)
  have z2 : (((w.alloc (.cells (arr .u8 (List.replicate 32 0)) 22)).alloc (.cells (arr .u32 (List.replicate 8 0)) 81)).setRow (w.heap.size + 1) (arr .u32 Sum.H0)).heap.size = w.heap.size + 2 := by simp
  obtain ⟨W2, hW2⟩ : ∃ W2, ((w.alloc (.cells (arr .u8 (List.replicate 32 0)) 22)).alloc (.cells (arr .u32 (List.replicate 8 0)) 81)).setRow (w.heap.size + 1) (arr .u32 Sum.H0) = W2 := ⟨_, rfl⟩
  rw [hW2] at m1 m0 b2 z2
  refine ⟨trivial, ?_⟩
  refine (callsIn_wide.2 (blocks_any A m c _)).mono ?_
  rintro e W3 ⟨rfl, hW3⟩
  have e3 : W3 = W2.alloc (.cells #[.slice A m c] 85) := by rw [hW3, ← hW2]; rfl
  clear hW3 hW2 n1 n0 hg1 hg0
  have hz3 : W3.heap.size = w.heap.size + 2 + 1 := by rw [e3, World.size_alloc, z2]
  have h3 : W3.cell? ⟨w.heap.size + 2, 0, none⟩ = some (.slice A m c) := by
    rw [e3, ← z2, cell_of_row _ _ 0 _ _ (0, 0) (heap_alloc_new W2 _)]; rfl
  have b3 : Below w.heap.size w W3 := by rw [e3]; exact b2.alloc (by omega) _
  have m13 : Row W3 (w.heap.size + 1) 81 .u32 Sum.H0 := by rw [e3]; exact m1.alloc _
  have m03 : Row W3 w.heap.size 22 .u8 (List.replicate 32 0) := by rw [e3]; exact m0.alloc _
  have p3 := (h.below (b3.mono hB))
  have T3 := (ht.below (b3.mono hB))
  have K3 := hT1.below b3 hT1.lt
  have lk := hT1.lt
  clear e3 m1 m0 b2 z2 h ht W2
  have hwf : W3.heap.size = w.heap.size + 3 := hz3
  have hne : ∀ i, w.heap.size + 2 ≤ i → i ≠ w.heap.size + 1 := fun i h e => by omega
  obtain ⟨msg, hmsg⟩ : ∃ msg, xss.flatten ++ padI xss.flatten.length = msg := ⟨_, rfl⟩
  have hit := fun n => iter_far n (w.heap.size + 1) (w.heap.size + 1 + 1) B A m c vs xss W3 h3 p3 T3 (by omega) (by omega) hm hn
  simp only [hmsg] at hit
  have hMB : Bs msg := fun z hz => by
    rw [← hmsg] at hz
    rcases List.mem_append.1 hz with h | h
    · exact hb z h
    · exact pad_bytes _ z h
  have HS := Lib.hid (show Sum.sha xss.flatten = outB (blocksI msg (msg.length / 64)) by
    unfold Sum.sha
    rw [hmsg, ← List.length_append, hmsg])
  clear hmsg hb hn
  gi_wp2_with fail
  refine wpIn_rangeFunc_far rfl (by omega) (gf := 70) (lb := #[.pointer (some ⟨w.heap.size + 1 + 1, 0, none⟩)]) rfl trivial (enters_of Tryd.func70 (by kernel_rfl) rfl)
    (hit _) (fun h k => h.trans k) (fun W l o o' hl ho hc _ => Only.put W l o o' ho hc) (Below.refl _ _) (fun _ => rfl)
    (Inv w msg) (Inv.far w _ (by omega)) ⟨m13, m03, b3⟩
    (fun x a' pre W => Inv w msg pre W ∧ ∃ Bx, w.heap.size + 3 ≤ Bx ∧ Row W Bx 86 .u8 x ∧ a' = { tmps := #[.slice A m c, undef, .pointer (some ⟨w.heap.size, 0, none⟩), .pointer (some ⟨w.heap.size + 1, 0, none⟩), .pointer (some ⟨Bx, 0, none⟩), undef, undef, undef, .agg (arr .u32 Sum.H0), .slice A m c, .func (.func 70) #[] #[.pointer (some ⟨w.heap.size + 1 + 1, 0, none⟩)], .agg (arr .u8 x), undef, undef, undef, undef, undef, undef, undef, undef, undef, undef, undef, undef, undef, undef, undef, undef, undef, undef, undef], defers := [] }) ?ib ?assign ?body ?done
  case ib =>
    rintro x a' pre W W' row ⟨hi, Bx, h1, h2, h3⟩ hg hr
    refine ⟨Inv.far w _ (B := w.heap.size + 2) (Nat.le_refl _) pre W W' row hi hg (fun r e => by have := (hr r e).1; omega), Bx, h1, h2.grown hg (fun e => ?_), h3⟩
    obtain ⟨_, o, ho, hc⟩ := hr Bx e.symm
    rw [h2.2] at ho
    cases ho
    cases hc
  case assign =>
    intro l pre x W K hi hp hsz hK
    have hx := chunks_mem (hp.subset (by simp) : x ∈ chunks msg)
    have hxw : ∀ z ∈ x, (Lit.int .u8 z).wf = true := fun z hz => by
      have hz' := hMB z (hx.2 z hz)
      simp [Lit.wf, IntKind.min, IntKind.max, IntKind.signed, IntKind.bits]; omega
    have HXL := Lib.hid hx.1
    have nw := Row.new (zs := List.replicate 64 0) (k := .u8) W 86 (fun z hz => by rw [List.eq_of_mem_replicate hz]; rfl)
    clear hx
    gi_wp2_with (refine wpListIn_store_Row rfl 86 _ _ rfl W.heap.size rfl 86 .u8 _ x rfl nw 64 info_64 HXL.out rfl ?_)
    have bw : Below W.heap.size W ((W.alloc (.cells (arr .u8 (List.replicate 64 0)) 86)).setRow W.heap.size (arr .u8 x)) := ((Below.refl _ W).alloc (Nat.le_refl _) _).grown (grown_setRow _ _ _) (by simp) (fun r e => by cases e; exact Nat.le_refl _)
    refine hK _ _ ((KeepsOthers.alloc _ _).trans (KeepsOthers.of_grownBy (grown_setRow _ _ _) (fun j o e ho => ?_))) (Only.of_below bw) ⟨Inv.far w _ (B := w.heap.size + 2) (Nat.le_refl _) pre W _ none hi (grown_of_below bw none) (fun r e => by cases e), W.heap.size, by omega, nw.setRow hxw, rfl⟩
    cases e
    obtain rfl := Option.some.inj (nw.2.symm.trans ho)
    rfl
  case body =>
    rintro l pre x a' W ⟨⟨i1, i0, ib⟩, Bx, hBx, hrx, rfl⟩ hp hsz
    have hx := chunks_mem (hp.subset (by simp) : x ∈ chunks msg)
    have hxb : Bs x := fun z hz => hMB z (hx.2 z hz)
    have HXL := Lib.hid hx.1
    have HPN := Lib.hid (prefix_next hp)
    have h8 := eight_blocks msg pre.length
    have H8 := Lib.hid h8.1
    have kT := hT1.below ib lk
    clear hx hp
    gi_wp2_with (first
      | (refine wpListIn_load_Row rfl 81 _ rfl (w.heap.size + 1) rfl 81 .u32 _ i1 8 38 Tryd.underlying81 info_8 H8.out ?_)
      | (refine wpListIn_load_Row rfl 86 _ rfl Bx rfl 86 .u8 _ hrx 64 5 Tryd.underlying86 info_64 HXL.out ?_))
    refine ⟨trivial, ?_⟩
    refine (CallsIn.inRound l (callsIn_wide.2 (fold_any _ x _ h8 hxb HXL.out kT))).mono ?_
    rintro e W4 ⟨rfl, hb4⟩
    have q1 := i1.below hb4 i1.lt
    have q0 := i0.below hb4 i0.lt
    have L8 : (Sum.block (blocksI msg pre.length) x).length = 8 := (Eight.sumUp _ _).1
    have H9 := Lib.hid L8
    clear L8
    gi_wp2_with (refine wpListIn_store_Row rfl 81 _ _ rfl (w.heap.size + 1) rfl 81 .u32 _ _ rfl q1 8 info_8 H9.out H8.out ?_)
    have e9 : blocksI msg (pre ++ [x]).length = Sum.block (blocksI msg pre.length) x := by
      rw [List.length_append, List.length_singleton, blocksI, ← HPN.out.2]
    have r1 := q1.setRow (eight_wf (Eight.sumUp (blocksI msg pre.length) (Sum.rounds (Sum.W x) 64 (blocksI msg pre.length))))
    refine ⟨(KeepsOthers.of_grownBy (grown_of_below hb4 none) (fun j o e => by cases e)).trans (KeepsOthers.of_grownBy (grown_setRow _ _ _) (fun j o e ho => ?_)),
      (Only.of_below hb4).trans (Only.of_grown (grown_setRow _ _ _) (fun r e => by cases e; rfl)), ?_, q0.setRow_other (by omega) _, (ib.trans (hb4.mono (by omega))).grown (grown_setRow _ _ _) (by have := hb4.size; omega) (fun r e => by cases e; omega)⟩
    · cases e
      obtain rfl := Option.some.inj (q1.2.symm.trans ho)
      rfl
    · rw [e9]; exact r1
  case done =>
    intro D W hD ⟨i1, i0, ib⟩ hDl
    rw [chunks_length] at i1
    have h8 := eight_blocks msg (msg.length / 64)
    generalize blocksI msg (msg.length / 64) = hh at i1 HS h8
    have H8 := Lib.hid h8.1
    have ls := i1.lt
    have b1 := i1.alloc (.cells (arr .u8 (List.replicate 32 0)) 22)
    have b0 := i0.alloc (.cells (arr .u8 (List.replicate 32 0)) 22)
    have bb := ib.alloc (by omega) (.cells (arr .u8 (List.replicate 32 0)) 22)
    have bn := Row.new (zs := List.replicate 32 0) (k := .u8) W 22 (fun z hz => by rw [List.eq_of_mem_replicate hz]; rfl)
    have bD := (Below.heap_alloc W (.cells (arr .u8 (List.replicate 32 0)) 22) D (Array.getElem?_eq_some_iff.1 hDl).1).trans hDl
    gi_wp2_with (refine wpListIn_load_Row rfl 81 _ rfl (w.heap.size + 1) rfl 81 .u32 _ b1 8 38 Tryd.underlying81 info_8 H8.out ?_)
    have gS := W.heap.size
    rw [← outPart_start hh] at bn
    gi_loopw [16] (fun i wr => ∃ k : Nat, k ≤ 8 ∧ i = .int .i64 k ∧ wr.heap[D]? = some (.deferred (some [])) ∧ Row wr W.heap.size 22 .u8 (outPart hh k) ∧ Row wr w.heap.size 22 .u8 (List.replicate 32 0) ∧ Below w.heap.size w wr) (fun i _ => 8 - (intOf i).toNat)
    case atStart => exact ⟨0, by omega, rfl, bD, bn, b0, bb⟩
    case round =>
      clear bD bn b0 bb b1 i1 i0 ib hDl
      obtain ⟨k, hk, rfl, dD, rn, r0, rb⟩ := hrel
      have hDW : D ≠ W.heap.size := fun e => by
        have := rn.2
        rw [← e, dD] at this
        cases this
      by_cases hlt : k < 8
      · have hidx := fun W' => run_index_arr (P := Tryd.prog) 81 38 8 .u32 hh k W' Tryd.underlying81 (by kernel_rfl) (by kernel_rfl) H8.out hlt
        have hsl : ∀ W', (Instr.sliceAt 22 (.pointer (some ⟨W.heap.size, 0, none⟩)) (some (.int .i64 (4 * (k : Int)))) (some (.int .i64 (4 * (k : Int) + 4))) none).run Tryd.prog W' = .ok (.slice (some ⟨W.heap.size, 4 * k, none⟩) 4 (32 - 4 * k)) W' := fun W' => by
          have := run_slice_arr_lh (P := Tryd.prog) 22 5 32 W.heap.size (4 * k) (4 * k + 4) W' Tryd.underlying22 (by kernel_rfl) (by omega) (by omega) (by omega)
          rw [show 4 * k + 4 - 4 * k = 4 by omega] at this
          exact_mod_cast this
        have hx : R32 (hh.getD k 0) := by
          rw [List.getD_eq_getElem?_getD, List.getElem?_eq_getElem (by rw [H8.out]; exact hlt)]
          exact h8.2 _ (List.getElem_mem _)
        have HST := Lib.hid (outPart_step hh hlt)
        have hlt' : (k : Int) < 8 := by omega
        have hk0 : (0 : Int) ≤ (k : Int) := by omega
        have hx1 := hx.1
        have hx2 := hx.2
        generalize hh.getD k 0 = x at hidx hx1 hx2 hx HST
        gi_wp2_with fail
        refine ⟨trivial, ?_⟩
        refine (callsIn_wide.2 (put_any W.heap.size (4 * k) 4 _ _ _ x _ (by omega) (by omega) rn (by rw [outPart_length]; omega) (by omega))).mono ?_
        rintro e W5 ⟨rfl, r5, g5⟩
        rw [HST.out] at r5
        have dD5 := (g5.block D (Array.getElem?_eq_some_iff.1 dD).1 (fun e => hDW (Option.some.inj e))).trans dD
        have r05 := r0.grown g5 (fun e => by have := Option.some.inj e; omega)
        have rb5 := rb.grown g5 rb.size (fun r e => by cases e; omega)
        gi_wp2_with fail
        go_roundw
        case rel => exact ⟨k + 1, by omega, by go_num, dD5, r5, r05, rb5⟩
        case measure => simp [intOf]; omega
      · have hk8 : k = 8 := by omega
        subst hk8
        rw [outPart_end] at rn
        have HO := Lib.hid (out_length hh)
        gi_wp2_with (first
          | (refine wpListIn_load_Row rfl 22 _ rfl W.heap.size rfl 22 .u8 _ rn 32 5 Tryd.underlying22 info_32 HO.out ?_)
          | (refine wpListIn_store_Row rfl 22 _ _ rfl w.heap.size rfl 22 .u8 _ _ rfl r0 32 info_32 HO.out rfl ?_))
        have r9 := r0.setRow rn.1
        have hD0 : D ≠ w.heap.size := by omega
        have dD9 := (setRow_other wr w.heap.size D (arr .u8 (outB hh)) hD0).trans dD
        refine ⟨by simp, .inl ⟨_, _, rfl, run_takeDeferred dD9, ?_⟩⟩
        have r10 : Row ((wr.setRow w.heap.size (arr .u8 (outB hh))).putObj D (.deferred none)) w.heap.size 22 .u8 (outB hh) := ⟨r9.1, (World.putObj_heap_other (fun e => hD0 e.symm)).trans r9.2⟩
        refine ⟨.agg (arr .u8 (outB hh)), results_Row rfl _ _ w.heap.size _ _ _ rfl r10 32 5 Tryd.underlying22 info_32 HO.out, by rw [HS.out], ?_⟩
        exact (rb.grown (grown_setRow _ _ _) rb.size (fun r e => by cases e; exact Nat.le_refl _)).grown (grownBy_putObj' _ D _) (by have := rb.size; simp; omega) (fun r e => by cases e; omega)
end Go.Proofs.YtoelgcdjhekafaaDoor.Sha
namespace Go.Proofs.YtoelgcdjhekafaaDoor.Sha
open Go.RowKit Go.Proofs.YtoelgcdjhekafaaDoor.Mem Go.Proofs.YtoelgcdjhekafaaDoor.Sum Go.ChangeShapes Go.WideShapes
set_option linter.unusedVariables false

theorem vals_of_cells {w : World} {a : Addr} {m : Nat} (V : Nat → Value) (h1 : ∀ r, r < m → (V r).oneCell' = true) (h : ∀ r, r < m → w.cell? (a.add r) = some (V r)) :
    Vals w w.heap.size (some a) m ((List.range m).map V) := by
  refine ⟨by simp, fun v hv => ?_, fun hn => ?_⟩
  · obtain ⟨r, hr, rfl⟩ := List.mem_map.1 hv
    exact h1 r (List.mem_range.1 hr)
  · obtain ⟨b, off, spot⟩ := a
    have h0 := h 0 hn
    have hspot : spot = none := by simpa [Addr.add] using World.cell?_spot h0
    subst hspot
    have hlt : b < w.heap.size := by simpa [Addr.add] using World.block_lt_of_cell? w _ h0
    refine ⟨b, off, rfl, hlt, fun i hi => ?_⟩
    have := h i hi
    have e : (Addr.mk b off none).add i = ⟨b, off + i, none⟩ := by unfold Addr.add; split <;> simp_all
    rw [e] at this
    rw [this]
    simp [List.getD_eq_getElem?_getD, hi]

theorem open_texts {H : Type} {enc : TypeId × Value → H} {P : Program} {w : World} {base : Nat} {held : Bool} {t e q : TypeId} {A : Option Addr} {m c : Nat} {d : DataW H} {p : List MemPlace}
    (ht : P.underlying t = some (.slice e)) (he : P.underlying e = some (.slice q)) (hq : P.underlying q = some (.int .u8)) (ce : P.cellsOf e = 1) (cq : P.cellsOf q = 1)
    (h : DataW.Trod enc P w base (fun _ => true) held t (.slice A m c) d p) : ∃ vs xss, Vals w w.heap.size A m vs ∧ Texts w w.heap.size vs xss := by
  obtain ⟨fuel, hf⟩ := h
  rcases Deep.open_int_rows ht he hq ce cq hf with ⟨hcs, _⟩ | ⟨a, len, cap, A', L, C, Z, hcs, _, hl, hm, _, hx⟩
  · simp [Value.cells] at hcs
    obtain ⟨rfl, rfl, rfl⟩ := hcs
    exact ⟨[], [], Vals.nil _ _ _, Texts.nil _ _⟩
  · simp [Value.cells] at hcs
    obtain ⟨rfl, rfl, rfl⟩ := hcs
    refine ⟨(List.range m).map fun r => .slice (A' r) (L r) (C r), (List.range m).map fun r => (Z r).take (L r), vals_of_cells _ (fun _ _ => rfl) (fun r hr => (hx r (by omega)).1), by simp, fun i hi => ?_⟩
    have hi' : i < m := by simpa using hi
    obtain ⟨_, r1, r2, r3, r4, r5, r6⟩ := hx i (by omega)
    refine ⟨A' i, L i, C i, by simp [List.getD_eq_getElem?_getD, hi'], r1, r2, ?_⟩
    have e : ((List.range m).map fun r => (Z r).take (L r)).getD i [] = (Z i).take (L i) := by simp [List.getD_eq_getElem?_getD, hi']
    rw [e]
    refine (ints_of_row (cap := C i) ?_).1
    cases hA : A' i with
    | none => have := r5 hA; exact .inl ⟨rfl, by omega, this, List.eq_nil_of_length_eq_zero (by omega)⟩
    | some x => exact .inr ⟨x, rfl, r1, r2, r3, fun j hj => (r6 x hA).2 j (by omega), r4⟩

theorem Texts.bs {w : World} {B : Nat} {vs : List Value} {xss : List (List Int)} (h : Texts w B vs xss) : Bs xss.flatten := fun z hz => by
  obtain ⟨xs, hxs, hz⟩ := List.mem_flatten.1 hz
  obtain ⟨i, hi, rfl⟩ := List.mem_iff_getElem.1 hxs
  obtain ⟨A, n, c, _, _, _, hh⟩ := h.2 i (by rw [h.1]; exact hi)
  have e : xss.getD i [] = xss[i] := by simp [List.getD_eq_getElem?_getD, hi]
  rw [e] at hh
  exact wf_u8 (hh.2.1 z hz)
theorem flat_succ (xss : List (List Int)) {k : Nat} (h : k < xss.length) : (xss.take (k + 1)).flatten = (xss.take k).flatten ++ xss.getD k [] := by
  rw [List.take_add_one, List.getElem?_eq_getElem h, List.flatten_append]
  simp [List.getD_eq_getElem?_getD, h]
end Go.Proofs.YtoelgcdjhekafaaDoor.Sha
namespace Go.Proofs.YtoelgcdjhekafaaDoor.Sha
open Go.RowKit Go.Proofs.YtoelgcdjhekafaaDoor.Mem Go.Proofs.YtoelgcdjhekafaaDoor.Help Go.Proofs.YtoelgcdjhekafaaDoor.Sum
set_option linter.unusedVariables false

theorem rowInts {w : World} {g n : Nat} {zs : List Int} {f : Int} (hr : Row w g 5 .u8 (zs ++ [f, f, f])) (hl : zs.length = n) : Ints w .u8 w.heap.size (some ⟨g, 0, none⟩) n zs := by
  have hi := hr.ints (n := n) (by simp; omega)
  rwa [List.take_left' hl] at hi
theorem Texts.cons {w : World} {B : Nat} {v : Value} {vs : List Value} {xs : List Int} {xss : List (List Int)} (h : Texts w B [v] [xs]) (k : Texts w B vs xss) : Texts w B (v :: vs) (xs :: xss) := h.append k

theorem sum_built (w : World) (n c : Nat) (vs : List Value) (xss : List (List Int)) (zs : List Int) (hv : vs.length = n) (hn : n ≤ 1000) (ht : Texts w w.heap.size vs xss) (hx : xss.flatten = zs) (hz : zs.length ≤ 1099511627776)
    (hT0 : Tab w 3 Sum.H0) (hT1 : Tab w 4 Sum.K) :
    Calls Tryd.prog 64 #[.slice (some ⟨w.heap.size, 0, none⟩) n c] (w.alloc (.cells vs.toArray 34)) fun e w' => e = .returned (.agg (arr .u8 (Sum.sha zs))) ∧ Below w.heap.size w w' := by
  subst hv
  subst hx
  have p1 := Vals.new w 34 vs ht.one_cell
  have hb1 : Below w.heap.size w (w.alloc (.cells vs.toArray 34)) := (Below.refl _ w).alloc (Nat.le_refl _) _
  have t1 := (ht.below hb1).more (B' := w.heap.size + 1) (by omega)
  refine (sum_any _ _ _ c _ xss _ p1 t1 (by simp) (by omega) hz ht.bs (hT0.below hb1 hT0.lt) (hT1.below hb1 hT1.lt)).mono ?_
  rintro e w' ⟨rfl, hb⟩
  exact ⟨rfl, hb1.trans (hb.mono (by simp))⟩
theorem sum_one (w : World) (B : Nat) (A : Option Addr) (n c d : Nat) (zs : List Int) (h : Ints w .u8 B A n zs) (hB : B ≤ w.heap.size) (hd : n ≤ d) (hd' : d ≤ maxLen) (hn : n ≤ 1099511627776)
    (hT0 : Tab w 3 Sum.H0) (hT1 : Tab w 4 Sum.K) :
    Calls Tryd.prog 64 #[.slice (some ⟨w.heap.size, 0, none⟩) 1 c] (w.alloc (.cells #[.slice A n d] 34)) fun e w' => e = .returned (.agg (arr .u8 (Sum.sha zs))) ∧ Below w.heap.size w w' :=
  sum_built w 1 c [.slice A n d] [zs] zs rfl (by omega) (Texts.one (h.more hB) hd hd') (by simp) (by rw [h.1]; exact hn) hT0 hT1
theorem sum_two (w : World) (B B' : Nat) (A A' : Option Addr) (n n' c d d' : Nat) (zs zs' : List Int) (h : Ints w .u8 B A n zs) (h' : Ints w .u8 B' A' n' zs') (hB : B ≤ w.heap.size) (hB' : B' ≤ w.heap.size) (hd : n ≤ d) (hd' : d ≤ maxLen)
    (hq : n' ≤ d') (hq' : d' ≤ maxLen) (hn : n + n' ≤ 1099511627776) (hT0 : Tab w 3 Sum.H0) (hT1 : Tab w 4 Sum.K) :
    Calls Tryd.prog 64 #[.slice (some ⟨w.heap.size, 0, none⟩) 2 c] (w.alloc (.cells #[.slice A n d, .slice A' n' d'] 34)) fun e w' => e = .returned (.agg (arr .u8 (Sum.sha (zs ++ zs')))) ∧ Below w.heap.size w w' :=
  sum_built w 2 c [.slice A n d, .slice A' n' d'] [zs, zs'] (zs ++ zs') rfl (by omega) ((Texts.one (h.more hB) hd hd').cons (Texts.one (h'.more hB') hq hq')) (by simp) (by rw [List.length_append, h.1, h'.1]; exact hn) hT0 hT1
end Go.Proofs.YtoelgcdjhekafaaDoor.Sha
namespace Go.Proofs.YtoelgcdjhekafaaDoor.Mem
open Go.RowKit Go.Shelf
set_option linter.unusedVariables false

/-- numbers laid over numbers, from place off on -/
def laidOver (cur : List Int) (off : Nat) (xs : List Int) : List Int := cur.take off ++ (xs ++ cur.drop (off + xs.length))
theorem laidOver_length (cur : List Int) (off : Nat) (xs : List Int) (h : off + xs.length ≤ cur.length) : (laidOver cur off xs).length = cur.length := by simp [laidOver]; omega
theorem laidOver_nil (cur : List Int) (off : Nat) : laidOver cur off [] = cur := by simp [laidOver]
theorem laidOver_mem {cur xs : List Int} {off : Nat} {z : Int} (h : z ∈ laidOver cur off xs) : z ∈ cur ∨ z ∈ xs := by
  rcases List.mem_append.1 h with h | h
  · exact .inl (List.mem_of_mem_take h)
  · rcases List.mem_append.1 h with h | h
    · exact .inr h
    · exact .inl (List.mem_of_mem_drop h)
theorem laidOver_get (cur : List Int) (off : Nat) (xs : List Int) (h : off + xs.length ≤ cur.length) (i : Nat) :
    (laidOver cur off xs).getD i 0 = if off ≤ i ∧ i < off + xs.length then xs.getD (i - off) 0 else cur.getD i 0 := by
  have ht : (cur.take off).length = off := by simp; omega
  simp only [laidOver, List.getD_eq_getElem?_getD]
  by_cases h1 : i < off
  · rw [List.getElem?_append_left (by omega), if_neg (by omega), List.getElem?_take, if_pos h1]
  · rw [List.getElem?_append_right (by omega), ht]
    by_cases h2 : i < off + xs.length
    · rw [List.getElem?_append_left (by omega), if_pos (by omega)]
    · rw [List.getElem?_append_right (by omega), if_neg (by omega), List.getElem?_drop]
      congr 2
      omega

theorem wpList_copy_Row {P : Program} {ops : Array Oper} {rest : List Oper} {o : Oper} {a : Act} {w : World} {Q : Exit → Act → World → Prop}
    (hgd : o.guard = none) (d s : Operand) (dT sT : TypeId) (ho : o.op = .call { callee := .builtin .copy, args := #[d, s], argTypes := #[dT, sT] }) (e : TypeId) (hu : P.underlying dT = some (.slice e)) (hsz : (P.info? e).map (·.size) = some 1)
    (g off dLen dCap : Nat) (B : Nat) (A : Option Addr) (sLen sCap : Nat) (hd : a.eval d = .slice (some ⟨g, off, none⟩) dLen dCap) (hs : a.eval s = .slice A sLen sCap)
    (t : TypeId) (k : IntKind) (cur xs : List Int) (hr : Row w g t k cur) (hx : Ints w k B A sLen xs) (hfit : off + dLen ≤ cur.length)
    (h : ∀ w', Row w' g t k (laidOver cur off (xs.take (min sLen dLen))) → w.grownBy w' (some g) → Hid (w'.heap.size = w.heap.size) → wpList P ops Q rest (a.put o.dst (.int .i64 ((min sLen dLen : Nat) : Int))) w') : wpList P ops Q (o :: rest) a w := by
  obtain ⟨m, hm⟩ : ∃ m, min sLen dLen = m := ⟨_, rfl⟩
  rw [hm] at h
  have hlen : (xs.take m).length = m := by rw [List.length_take, hx.1]; omega
  by_cases h0 : m = 0
  · subst h0
    refine wpList_copy_nothing hgd d s dT sT ho e hu hsz _ A dLen dCap sLen sCap hd hs hm ?_
    exact h w (by rw [List.take_zero, laidOver_nil]; exact hr) (World.grownBy.refl _ _) (Lib.hid rfl)
  · obtain ⟨b, o2, rfl, _, hc⟩ := hx.2.2 (by omega)
    refine wpList_copy_own hgd d s dT sT ho e hu hsz g off dLen dCap ⟨b, o2, none⟩ sLen sCap hd hs (cur.map (Value.int k)).toArray t hr.2 ((xs.take m).map (Value.int k)) (by rw [List.length_map, hlen]; exact hm.symm)
      (fun j v hv => ?_) (by simp [hx.1]; omega) (by intro v hv; obtain ⟨z, _, rfl⟩ := List.mem_map.1 hv; rfl) ?_
    · have hj : j < m := by
        have := (List.getElem?_eq_some_iff.1 hv).1
        rw [List.length_map, hlen] at this
        exact this
      have e1 : (Addr.mk b o2 none).add j = ⟨b, o2 + j, none⟩ := by unfold Addr.add; split <;> simp_all
      rw [e1, hc j (by omega), ← hv]
      simp [List.getD_eq_getElem?_getD, hj, show j < xs.length by have := hx.1; omega]
    · have hcells : (((cur.map (Value.int k)).toArray.toList.take off ++ ((xs.take m).map (Value.int k) ++ (cur.map (Value.int k)).toArray.toList.drop (off + ((xs.take m).map (Value.int k)).length)))).toArray = arr k (laidOver cur off (xs.take m)) := by
        rw [List.length_map, hlen]
        simp [arr, laidOver, List.map_take, List.map_drop, hlen]
      rw [hcells, List.length_map, hlen]
      exact h _ (hr.setRow (fun z hz => by
        rcases laidOver_mem hz with h1 | h1
        · exact hr.1 z h1
        · exact hx.2.1 z (List.mem_of_mem_take h1))) (grown_setRow _ _ _) (Lib.hid (by simp))

section
variable {F : Fence} {n : Nat} {P : Program} {ops : Array Oper} {rest : List Oper} {o : Oper} {a : Act} {w : World} {Q : Exit → Act → World → Prop}
theorem run_alloc_arr (ty : TypeId) (k : IntKind) (m : Nat) (hz : (P.info? ty).bind (·.zero) = some (.agg (arr k (List.replicate m 0)))) (v : Value) :
    (Instr.alloc ty true v).run P w = .ok (.pointer (some ⟨w.heap.size, 0, none⟩)) (w.alloc (.cells (arr k (List.replicate m 0)) ty)) := by
  cases hi : P.info? ty with
  | none => simp [hi] at hz
  | some i =>
    simp only [hi, Option.bind_some] at hz
    simp [Instr.alloc, zeroValue, typeInfo, hi, hz, newVar, newRow, Value.cells]
theorem zeros_wf (k : IntKind) (m : Nat) : ∀ z ∈ List.replicate m (0 : Int), (Lit.int k z).wf = true := fun z hz => by rw [List.eq_of_mem_replicate hz]; cases k <;> decide
/-- a new array of zeros -/
theorem wpList_alloc_Row (hgd : o.guard = none) (ty : TypeId) (ho : o.op = .alloc ty) (k : IntKind) (m : Nat) (hz : (P.info? ty).bind (·.zero) = some (.agg (arr k (List.replicate m 0))))
    (h : ∀ w', Row w' w.heap.size ty k (List.replicate m 0) → w.grownBy w' none → Hid (w'.heap.size = w.heap.size + 1) → wpList P ops Q rest (a.put o.dst (.pointer (some ⟨w.heap.size, 0, none⟩))) w') : wpList P ops Q (o :: rest) a w := by
  refine wpList_plain hgd fun K hK => ?_
  unfold Oper.wp execOp
  simp only [ho, run_alloc_arr ty k m hz, Sem.run_bind, Sem.run_pure, Result.andThen_ok]
  exact hK _ _ (h _ (Row.new w ty (zeros_wf k m)) (World.grownBy_alloc w _ none) (Lib.hid (by simp)))
theorem wpListIn_alloc_Row (hw : Region.wanted o (yielded ops a.tmps) = true) (ty : TypeId) (ho : o.op = .alloc ty) (k : IntKind) (m : Nat) (hz : (P.info? ty).bind (·.zero) = some (.agg (arr k (List.replicate m 0))))
    (h : ∀ w', Row w' w.heap.size ty k (List.replicate m 0) → w.grownBy w' none → Hid (w'.heap.size = w.heap.size + 1) → wpListIn F n P ops Q rest (a.put o.dst (.pointer (some ⟨w.heap.size, 0, none⟩))) w') : wpListIn F n P ops Q (o :: rest) a w := by
  refine wpListIn_step fun K hK => ?_
  rw [if_pos hw]
  unfold Oper.wpIn
  refine ⟨fun f hf => by simp [Oper.about, ho] at hf, ?_⟩
  rw [Oper.semAt_plain F _ _ (by rw [ho]; intro c hc'; cases hc')]
  unfold execOp
  simp only [ho, run_alloc_arr ty k m hz, Sem.run_bind, Sem.run_pure, Result.andThen_ok]
  exact hK _ _ (h _ (Row.new w ty (zeros_wf k m)) (World.grownBy_alloc w _ none) (Lib.hid (by simp)))
/-- an array that came in by value, in a box of its own -/
theorem wpList_box_Row (hgd : o.guard = none) (ty : TypeId) (x : Operand) (ho : o.op = .box ty x) (k : IntKind) (zs : List Int) (hx : a.eval x = .agg (arr k zs)) (hwf : ∀ z ∈ zs, (Lit.int k z).wf = true)
    (h : ∀ w', Row w' w.heap.size ty k zs → w.grownBy w' none → Hid (w'.heap.size = w.heap.size + 1) → wpList P ops Q rest (a.put o.dst (.pointer (some ⟨w.heap.size, 0, none⟩))) w') : wpList P ops Q (o :: rest) a w := by
  refine wpList_plain hgd fun K hK => ?_
  unfold Oper.wp execOp
  simp only [ho, hx, Sem.run_bind, Instr.box, newVar, newRow, run_newObj_alloc, Sem.run_pure, Result.andThen_ok]
  exact hK _ _ (h _ (Row.new w ty hwf) (World.grownBy_alloc w _ none) (Lib.hid (by simp)))
theorem wpListIn_box_Row (hw : Region.wanted o (yielded ops a.tmps) = true) (ty : TypeId) (x : Operand) (ho : o.op = .box ty x) (k : IntKind) (zs : List Int) (hx : a.eval x = .agg (arr k zs)) (hwf : ∀ z ∈ zs, (Lit.int k z).wf = true)
    (h : ∀ w', Row w' w.heap.size ty k zs → w.grownBy w' none → Hid (w'.heap.size = w.heap.size + 1) → wpListIn F n P ops Q rest (a.put o.dst (.pointer (some ⟨w.heap.size, 0, none⟩))) w') : wpListIn F n P ops Q (o :: rest) a w := by
  refine wpListIn_step fun K hK => ?_
  rw [if_pos hw]
  unfold Oper.wpIn
  refine ⟨fun f hf => by simp [Oper.about, ho] at hf, ?_⟩
  rw [Oper.semAt_plain F _ _ (by rw [ho]; intro c hc'; cases hc')]
  unfold execOp
  simp only [ho, hx, Sem.run_bind, Instr.box, newVar, newRow, run_newObj_alloc, Sem.run_pure, Result.andThen_ok]
  exact hK _ _ (h _ (Row.new w ty hwf) (World.grownBy_alloc w _ none) (Lib.hid (by simp)))
theorem wpList_store_RowTo (hgd : o.guard = none) (ty : TypeId) (x y : Operand) (ho : o.op = .store ty x y) (g : Nat) (hx : a.eval x = .pointer (some ⟨g, 0, none⟩)) (t : TypeId) (k : IntKind) (old zs : List Int) (hy : a.eval y = .agg (arr k zs))
    (hr : Row w g t k old) (m : Nat) (hi : (P.info? ty).map (·.size) = some m) (hn : zs.length = m) (ho' : old.length = m) (hwf : ∀ z ∈ zs, (Lit.int k z).wf = true)
    (h : ∀ w', Row w' g t k zs → w.grownBy w' (some g) → Hid (w'.heap.size = w.heap.size) → wpList P ops Q rest (a.put o.dst undef) w') : wpList P ops Q (o :: rest) a w :=
  wpList_store_Row hgd ty x y ho g hx t k old zs hy hr m hi hn ho' (h _ (hr.setRow hwf) (grown_setRow _ _ _) (Lib.hid (by simp)))
theorem wpListIn_store_RowTo (hw : Region.wanted o (yielded ops a.tmps) = true) (ty : TypeId) (x y : Operand) (ho : o.op = .store ty x y) (g : Nat) (hx : a.eval x = .pointer (some ⟨g, 0, none⟩)) (t : TypeId) (k : IntKind) (old zs : List Int) (hy : a.eval y = .agg (arr k zs))
    (hr : Row w g t k old) (m : Nat) (hi : (P.info? ty).map (·.size) = some m) (hn : zs.length = m) (ho' : old.length = m) (hwf : ∀ z ∈ zs, (Lit.int k z).wf = true)
    (h : ∀ w', Row w' g t k zs → w.grownBy w' (some g) → Hid (w'.heap.size = w.heap.size) → wpListIn F n P ops Q rest (a.put o.dst undef) w') : wpListIn F n P ops Q (o :: rest) a w :=
  wpListIn_store_Row hw ty x y ho g hx t k old zs hy hr m hi hn ho' (h _ (hr.setRow hwf) (grown_setRow _ _ _) (Lib.hid (by simp)))
end
/-- a whole array as a slice -/
theorem run_slice_arr_all {P : Program} (t e : TypeId) (n g : Nat) (w : World) (ht : P.underlying t = some (.array n e)) (hs : (P.info? e).map (·.size) = some 1) (hn : 0 < n) :
    (Instr.sliceAt t (.pointer (some ⟨g, 0, none⟩)) none none none).run P w = .ok (.slice (some ⟨g, 0, none⟩) n n) w := by
  have he : P.elem t = e := by simp [Program.elem, ht]
  have hl : P.arrayLen t = n := by simp [Program.arrayLen, ht]
  have ht' : P.underlying t = some (.array (P.arrayLen t) (P.elem t)) := by rw [he, hl]; exact ht
  obtain ⟨inf, hi, h1⟩ := Option.map_eq_some_iff.1 hs
  rw [run_sliceAt_array_all w t ⟨g, 0, none⟩ ht', he, hl]
  have hz : (sizeOf e).run P w = .ok 1 w := by simp [sizeOf, typeInfo, hi, h1]
  rw [hz]
  simp [Result.andThen, slicedAt, Addr.add]
end Go.Proofs.YtoelgcdjhekafaaDoor.Mem
namespace Go.Proofs.YtoelgcdjhekafaaDoor.Mac
open Go.RowKit Go.Proofs.YtoelgcdjhekafaaDoor.Mem Go.Proofs.YtoelgcdjhekafaaDoor.Help Go.Proofs.YtoelgcdjhekafaaDoor.Sum Go.Proofs.YtoelgcdjhekafaaDoor.Sha
set_option linter.unusedVariables false
attribute [local irreducible] wpList wpListIn

/-- a key that is too long goes by its sum -/
def fit (key : List Int) : List Int := if 64 < key.length then Sum.sha key else key
/-- the key as a block, with zeros behind it -/
def blk (key : List Int) : List Int := fit key ++ List.replicate (64 - (fit key).length) 0
def flip (t x : Int) : Int := bits .xor .u8 x t
def turned (t : Int) (zs : List Int) : List Int := zs.map (flip t)
/-- HMAC -/
def tag (key msg : List Int) : List Int := Sum.sha (turned 92 (blk key) ++ Sum.sha (turned 54 (blk key) ++ msg))

theorem sha_length (zs : List Int) : (Sum.sha zs).length = 32 := out_length _
theorem sha_bytes (zs : List Int) : Bs (Sum.sha zs) := out_bytes _
theorem fit_length (key : List Int) : (fit key).length ≤ 64 := by
  unfold fit
  split
  · rw [sha_length]; omega
  · omega
theorem blk_length (key : List Int) : (blk key).length = 64 := by have := fit_length key; simp [blk]; omega
theorem wf_of_byte {z : Int} (h : 0 ≤ z ∧ z ≤ 255) : (Lit.int .u8 z).wf = true := by simp [Lit.wf, IntKind.min, IntKind.max, IntKind.signed, IntKind.bits]; omega
theorem fit_bytes {key : List Int} (h : Bs key) : Bs (fit key) := by
  unfold fit
  split
  · exact sha_bytes _
  · exact h
theorem blk_bytes {key : List Int} (h : Bs key) : Bs (blk key) := fun z hz => by
  rcases List.mem_append.1 hz with h1 | h1
  · exact fit_bytes h z h1
  · rw [List.eq_of_mem_replicate h1]; omega
theorem flip_wf (t x : Int) : (Lit.int .u8 (flip t x)).wf = true := wf_bits _ _ _ _
theorem turned_length (t : Int) (zs : List Int) : (turned t zs).length = zs.length := by simp [turned]
theorem turned_wf (t : Int) (zs : List Int) : ∀ z ∈ turned t zs, (Lit.int .u8 z).wf = true := fun z hz => by
  obtain ⟨x, _, rfl⟩ := List.mem_map.1 hz
  exact flip_wf _ _
theorem turned_bytes (t : Int) (zs : List Int) : Bs (turned t zs) := fun z hz => wf_u8 (turned_wf t zs z hz)
theorem tag_length (key msg : List Int) : (tag key msg).length = 32 := sha_length _
theorem tag_bytes (key msg : List Int) : Bs (tag key msg) := sha_bytes _

/-- the first k turned -/
def part (t : Int) (zs : List Int) (k : Nat) : List Int := turned t (zs.take k) ++ zs.drop k
theorem part_start (t : Int) (zs : List Int) : part t zs 0 = zs := by simp [part, turned]
theorem part_end (t : Int) (zs : List Int) {k : Nat} (h : zs.length ≤ k) : part t zs k = turned t zs := by simp [part, List.take_of_length_le h, List.drop_of_length_le h]
theorem part_get (t : Int) (zs : List Int) {k : Nat} (h : k < zs.length) : (part t zs k).getD k 0 = zs.getD k 0 := by
  have hl : (turned t (zs.take k)).length = k := by rw [turned_length, List.length_take]; omega
  rw [part, List.getD_eq_getElem?_getD, List.getElem?_append_right (by omega), hl, List.getElem?_drop]
  simp [List.getD_eq_getElem?_getD]
theorem part_set (t : Int) (zs : List Int) {k : Nat} (h : k < zs.length) : (part t zs k).set k (flip t (zs.getD k 0)) = part t zs (k + 1) := by
  have hl : (turned t (zs.take k)).length = k := by rw [turned_length, List.length_take]; omega
  unfold part
  rw [List.set_append_right _ _ (by omega), hl, Nat.sub_self, List.drop_eq_getElem_cons h, List.set_cons_zero, List.take_succ_eq_append_getElem h]
  rw [show turned t (zs.take k ++ [zs[k]]) = turned t (zs.take k) ++ [flip t zs[k]] by rw [turned, List.map_append]; rfl, List.append_assoc, List.getD_eq_getElem?_getD, List.getElem?_eq_getElem h]
  rfl

theorem info_64m : (Tryd.prog.info? 86).map (·.size) = some 64 := by kernel_rfl
theorem fit_over {key : List Int} : laidOver (List.replicate 64 0) 0 (fit key) = blk key := by
  rw [laidOver, List.take_zero, List.nil_append, Nat.zero_add, List.drop_replicate, blk]

theorem zero_64 : (Tryd.prog.info? 86).bind (·.zero) = some (.agg (arr .u8 (List.replicate 64 0))) := by kernel_rfl
theorem zero_32 : (Tryd.prog.info? 22).bind (·.zero) = some (.agg (arr .u8 (List.replicate 32 0))) := by kernel_rfl

set_option maxRecDepth 100000 in
set_option maxHeartbeats 4000000 in
theorem fitted_any (B : Nat) (A : Option Addr) (n c : Nat) (zs : List Int) (w : World) (h : Ints w .u8 B A n zs) (hB : B ≤ w.heap.size) (hc : n ≤ c) (hc' : c ≤ maxLen) (hn : n ≤ 1099511627776)
    (hT0 : Tab w 3 Sum.H0) (hT1 : Tab w 4 Sum.K) :
    Calls Tryd.prog 60 #[.slice A n c] w fun e w' => e = .returned (.agg (arr .u8 (blk zs))) ∧ Below w.heap.size w w' := by
  have hL := h.1
  have hsl32 := fun W g => run_slice_arr_all (P := Tryd.prog) 22 5 32 g W Tryd.underlying22 (by kernel_rfl) (by omega)
  have hsl64 := fun W g => run_slice_arr_all (P := Tryd.prog) 86 5 64 g W Tryd.underlying86 (by kernel_rfl) (by omega)
  have HB := Lib.hid (blk_length zs)
  by_cases hbig : 64 < n
  · have hbig' : (64 : Int) < (n : Int) := by omega
    have hfit : fit zs = Sum.sha zs := by unfold fit; rw [if_pos (by omega)]
    have HF := Lib.hid hfit
    clear hL hfit
    go_enter Tryd.func60, Tryd.ntmps60
    go_wp2_with (refine wpList_alloc_Row rfl 86 rfl .u8 64 zero_64 ?_; intro w0 r0 g0 z0)
    have b0 : Below w.heap.size w w0 := (Below.refl _ w).grown g0 (Nat.le_refl _) (by simp)
    have s0 : w.heap.size < w0.heap.size := r0.lt
    refine (sum_one _ B A n _ c zs (h.below (b0.mono hB)) (by omega) hc hc' hn (hT0.below b0 hT0.lt) (hT1.below b0 hT1.lt)).mono ?_
    rintro e w1 ⟨rfl, hb1⟩
    have b1 := b0.trans (hb1.mono (by omega))
    have s1 := hb1.size
    have r1 := r0.below hb1 (by omega)
    clear hb1 b0 hT0 hT1 h
    go_wp2_with (first
      | (refine wpList_alloc_Row rfl 22 rfl .u8 32 zero_32 ?_; intro w2 r2 g2 z2)
      | (refine wpList_store_RowTo rfl 22 _ _ rfl w1.heap.size rfl 22 .u8 _ (Sum.sha zs) rfl r2 32 info_32 (sha_length _) (by simp) (fun z hz => wf_of_byte (sha_bytes _ z hz)) ?_; intro wX r3 g3 z3; have iX := r3.ints (n := 32) (by rw [sha_length]; omega); rw [List.take_of_length_le (by rw [sha_length]; omega), ← HF.out] at iX; have rX := (r1.grown g2 (by simp)).grown g3 (by intro e; injection e with e; omega); have lX := rX.lt)
      | (refine wpList_alloc_Row rfl 86 rfl .u8 64 zero_64 ?_; intro w5 r5 g5 z5; have jX := iX.keep (w' := w5) fun p hp => World.cell?_of_block (g5.block _ hp (by simp)); have r5X := rX.grown g5 (by simp))
      | (refine wpList_copy_Row rfl _ _ 34 34 rfl 5 Tryd.underlying34 (by kernel_rfl) wX.heap.size 0 64 64 wX.heap.size (some ⟨w1.heap.size, 0, none⟩) 32 32 rfl rfl 86 .u8 _ (fit zs) r5 jX (by simp) ?_; intro w6 r6 g6 z6; rw [List.take_of_length_le (by rw [iX.1]; omega), fit_over] at r6; have r6X := r5X.grown g6 (by intro e; injection e with e; omega))
      | (refine wpList_load_Row rfl 86 _ rfl wX.heap.size rfl 86 .u8 _ r6 64 5 Tryd.underlying86 info_64m HB.out ?_)
      | (refine wpList_store_RowTo rfl 86 _ _ rfl w.heap.size rfl 86 .u8 _ (blk zs) rfl r6X 64 info_64m HB.out (by simp) r6.1 ?_; intro w7 r7 g7 z7))
    have bX : Below w.heap.size w wX := (b1.grown g2 b1.size (by simp)).grown g3 (by have := g2.size; omega) (fun r e => by cases e; omega)
    have b7 : Below w.heap.size w w7 := ((bX.grown g5 bX.size (by simp)).grown g6 (by have := g5.size; omega) (fun r e => by cases e; omega)).grown g7 (by have := g5.size; have := g6.size; omega) (fun r e => by cases e; omega)
    exact bodyPost_ret (results_Row rfl _ _ w.heap.size _ _ _ rfl r7 64 5 Tryd.underlying86 info_64m HB.out) rfl ⟨rfl, b7⟩
  · have hbig' : ¬ (64 : Int) < (n : Int) := by omega
    have hfit : fit zs = zs := by unfold fit; rw [if_neg (by omega)]
    have HF := Lib.hid hfit
    clear hL hfit
    go_enter Tryd.func60, Tryd.ntmps60
    go_wp2_with (first
      | (refine wpList_alloc_Row (w := w) rfl 86 rfl .u8 64 zero_64 ?_; intro wX rX gX zX; have lX := rX.lt; have iX := h.keep (w' := wX) fun p hp => World.cell?_of_block (gX.block _ (by omega) (by simp)))
      | (refine wpList_alloc_Row (w := wX) rfl 86 rfl .u8 64 zero_64 ?_; intro w5 r5 g5 z5; have jX := iX.keep (w' := w5) fun p hp => World.cell?_of_block (g5.block _ (by omega) (by simp)); have r5X := rX.grown g5 (by simp))
      | (refine wpList_copy_Row rfl _ _ 34 34 rfl 5 Tryd.underlying34 (by kernel_rfl) wX.heap.size 0 64 64 B A n c rfl rfl 86 .u8 _ zs r5 jX (by simp) ?_; intro w6 r6 g6 z6; rw [List.take_of_length_le (by rw [h.1]; omega), ← HF.out, fit_over] at r6; have r6X := r5X.grown g6 (by intro e; injection e with e; omega))
      | (refine wpList_load_Row rfl 86 _ rfl wX.heap.size rfl 86 .u8 _ r6 64 5 Tryd.underlying86 info_64m HB.out ?_)
      | (refine wpList_store_RowTo rfl 86 _ _ rfl w.heap.size rfl 86 .u8 _ (blk zs) rfl r6X 64 info_64m HB.out (by simp) r6.1 ?_; intro w7 r7 g7 z7))
    have bX : Below w.heap.size w wX := (Below.refl _ w).grown gX (Nat.le_refl _) (by simp)
    have b7 : Below w.heap.size w w7 := ((bX.grown g5 bX.size (by simp)).grown g6 (by have := g5.size; omega) (fun r e => by cases e; omega)).grown g7 (by have := g5.size; have := g6.size; omega) (fun r e => by cases e; omega)
    exact bodyPost_ret (results_Row rfl _ _ w.heap.size _ _ _ rfl r7 64 5 Tryd.underlying86 info_64m HB.out) rfl ⟨rfl, b7⟩
end Go.Proofs.YtoelgcdjhekafaaDoor.Mac
namespace Go.Proofs.YtoelgcdjhekafaaDoor.Mac
open Go.RowKit Go.Shelf Go.Proofs.YtoelgcdjhekafaaDoor.Mem Go.Proofs.YtoelgcdjhekafaaDoor.Help Go.Proofs.YtoelgcdjhekafaaDoor.Sum Go.Proofs.YtoelgcdjhekafaaDoor.Sha Go.Proofs.YtoelgcdjhekafaaDoor.Range
set_option linter.unusedVariables false
attribute [local go_sem] Oper.semAt_some

theorem behind_any (A0 A : Option Addr) (n0 c0 m c : Nat) (w : World) :
    Calls Tryd.prog 65 #[.slice A0 n0 c0, .slice A m c] w fun e w' => e = .returned (.func (.func 69) #[] #[.pointer (some ⟨w.heap.size, 0, none⟩), .pointer (some ⟨w.heap.size + 1, 0, none⟩)]) ∧
      w' = (w.alloc (.cells #[.slice A0 n0 c0] 34)).alloc (.cells #[.slice A m c] 85) := by
  go_enter Tryd.func65, Tryd.ntmps65
  go_wp2
  go_ret
  exact ⟨rfl, rfl⟩

/-- a slice that reads as values, at a block that is none of S -/
def ValsN (w : World) (S : Nat → Prop) (A : Option Addr) (n : Nat) (vs : List Value) : Prop :=
  vs.length = n ∧ (0 < n → ∃ b off, A = some ⟨b, off, none⟩ ∧ ¬ S b ∧ ∀ i, i < n → w.cell? ⟨b, off + i, none⟩ = some (vs.getD i undef))
theorem ValsN.only {S : Nat → Prop} {w w' : World} {A : Option Addr} {n : Nat} {vs : List Value} (h : ValsN w S A n vs) (ho : Only S w w') : ValsN w' S A n vs :=
  ⟨h.1, fun hn => by
    obtain ⟨b, off, e, hb, hc⟩ := h.2 hn
    exact ⟨b, off, e, hb, fun i hi => ho.cell (p := ⟨b, off + i, none⟩) hb (hc i hi)⟩⟩
theorem ValsN.of {S : Nat → Prop} {w : World} {B : Nat} {A : Option Addr} {n : Nat} {vs : List Value} (h : Vals w B A n vs) (hB : ∀ b, b < B → ¬ S b) : ValsN w S A n vs :=
  ⟨h.1, fun hn => by
    obtain ⟨b, off, e, hb, hc⟩ := h.2.2 hn
    exact ⟨b, off, e, hB b hb, hc⟩⟩
theorem ValsN.below {S : Nat → Prop} {w w' : World} {A : Option Addr} {n : Nat} {vs : List Value} (h : ValsN w S A n vs) (hb : Below w.heap.size w w') : ValsN w' S A n vs :=
  ⟨h.1, fun hn => by
    obtain ⟨b, off, e, hS, hc⟩ := h.2 hn
    exact ⟨b, off, e, hS, fun i hi => (hb.cell (p := ⟨b, off + i, none⟩) (World.block_lt_of_cell? w _ (hc i hi))).trans (hc i hi)⟩⟩

theorem take_cons_prefix (v0 : Value) (vs : List Value) {k : Nat} (hk : k < vs.length) : (v0 :: vs.take k) ++ [vs.getD k undef] = v0 :: vs.take (k + 1) := by
  rw [List.cons_append, List.take_succ_eq_append_getElem hk, List.getD_eq_getElem?_getD, List.getElem?_eq_getElem hk]
  rfl

set_option maxRecDepth 100000 in
set_option maxHeartbeats 2000000 in
theorem behind_far (n b1 b2 : Nat) (S : Nat → Prop) (v0 : Value) (A : Option Addr) (m c : Nat) (vs : List Value) (w : World) (h1 : w.cell? ⟨b1, 0, none⟩ = some v0) (h2 : w.cell? ⟨b2, 0, none⟩ = some (.slice A m c)) (hS1 : ¬ S b1) (hS2 : ¬ S b2)
    (ho : v0.oneCell' = true) (hv1 : ∀ v ∈ vs, v.oneCell' = true) (hv : ValsN w S A m vs) (hm : m ≤ 1073741824) :
    SeqFar Fence.wide n Tryd.prog 69 #[.pointer (some ⟨b1, 0, none⟩), .pointer (some ⟨b2, 0, none⟩)] (fun v => #[v]) (Only S) (v0 :: vs) w := by
  intro l J W hW hJ hY h0
  have k1 := (hW.cell (p := ⟨b1, 0, none⟩) (World.block_lt_of_cell? w _ h1)).trans h1
  have k2 := (hW.cell (p := ⟨b2, 0, none⟩) (World.block_lt_of_cell? w _ h2)).trans h2
  have kv := hv.below hW
  have HL := Lib.hid hv.1
  clear h1 h2 hv
  obtain ⟨fn, tmps, assign, body, hy, hR⟩ := hY [] v0 _ h0 ⟨vs, rfl⟩
  refine callsIn_of_wp Tryd.func69 rfl trivial ?_ rfl
  simp only [Tryd.ntmps69, List.size_toArray, List.length_cons, List.length_nil, Nat.reduceAdd, Nat.reduceSub, Array.replicate_succ, Array.replicate_zero, List.push_toArray, List.append_toArray, List.nil_append, List.cons_append]
  gi_wp2_with fail
  refine ⟨fun h => (by cases h), ?_⟩
  refine hR.mono ?_
  rintro e W1 ⟨rfl, J1, o1⟩
  have q2 := o1.cell (p := ⟨b2, 0, none⟩) hS2 k2
  have qv := kv.only o1
  clear hy hR k1 k2 kv h0 o1
  have hmi : (m : Int) ≤ 1073741824 := by omega
  gi_wp2_with fail
  gi_loopw [12] (fun i wr => ∃ k : Nat, k ≤ m ∧ i = .int .i64 k ∧ J (v0 :: vs.take k) wr ∧ Only S W1 wr) (fun i _ => m - (intOf i).toNat)
  case atStart => exact ⟨0, by omega, rfl, by simpa using J1, Only.refl _ _⟩
  case round =>
    obtain ⟨k, hk, rfl, Jk, ok⟩ := hrel
    by_cases hlt : k < m
    · obtain ⟨b, off, rfl, hbS, hc⟩ := (qv.only ok).2 (by omega)
      have hck := hc k hlt
      have hkl : k < vs.length := by rw [HL.out]; exact hlt
      have HP := Lib.hid (take_cons_prefix v0 vs hkl)
      have h1c := hv1 (vs.getD k undef) (by rw [List.getD_eq_getElem?_getD, List.getElem?_eq_getElem hkl]; exact List.getElem_mem hkl)
      generalize vs.getD k undef = v at hck HP h1c
      have hpre : (v0 :: vs.take k) ++ [v] <+: v0 :: vs := by rw [HP.out]; exact List.cons_prefix_cons.2 ⟨rfl, List.take_prefix _ _⟩
      obtain ⟨fn, tmps, assign, body, hy, hR⟩ := hY (v0 :: vs.take k) v wr Jk hpre
      have hlt' : (k : Int) < (m : Int) := by omega
      have hk0 : (0 : Int) ≤ (k : Int) := by omega
      clear hpre hc
      gi_wp2_with fail
      refine ⟨fun h => (by cases h), ?_⟩
      refine hR.mono ?_
      rintro e W4 ⟨rfl, J4, o4⟩
      rw [HP.out] at J4
      gi_wp2_with fail
      go_roundw
      case rel => exact ⟨k + 1, by omega, by go_num, J4, ok.trans o4⟩
      case measure => simp [intOf]; omega
    · have hkm : k = m := by omega
      subst hkm
      rw [List.take_of_length_le (by rw [HL.out]; omega)] at Jk
      gi_wp2_with fail
      go_end0
      exact ⟨⟨_, rfl⟩, Jk⟩
end Go.Proofs.YtoelgcdjhekafaaDoor.Mac
