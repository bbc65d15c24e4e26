/-
  The function Take of package block, by its contract.
  What a call of package aead is handed: a slice that reads as bytes.
  The functions length and onceKey of package aead by their contracts: how many bytes there are, in eight bytes; the key of a tag.
  The iterator over parts and their paddings of package aead, by its contract: it hands out each part, and with it as many zeros as are missing up to a multiple of 16.
  A list of slices in a variable, which is appended to: what is known of it, and how it grows: one step of package aead's tagOf.
-/
import Derived.Test.YtjelacblnjbfgaaDoorB14
import Derived.Test.YtjelacblnjbfgaaDoorB5
import Derived.Laws.ResultCell
import Derived.Test.YtjelacblnjbfgaaDoorB12
import Derived.Test.YtjelacblnjbfgaaDoorB10
import Derived.Test.YtjelacblnjbfgaaDoorB11
import Derived.Test.YtjelacblnjbfgaaDoorB9
import Derived.Test.YtjelacblnjbfgaaDoorB3
import Derived.Test.YtjelacblnjbfgaaDoorB7
import Derived.Test.YtjelacblnjbfgaaDoorB1
import Derived.Test.YtjelacblnjbfgaaDoorB6
set_option linter.unusedVariables false
namespace Go.Proofs.YtjelacblnjbfgaaDoor.Rs
open Go.RowKit Go.Shelf Go.Proofs.YtjelacblnjbfgaaDoor Mem Held Go.Proofs.YtjelacblnjbfgaaDoor.Range Rc
attribute [local go_sem] Oper.semAt_some
attribute [local irreducible] wpList wpListIn Calls
theorem results_two {P : Program} {fn : Func} {p q : Tmp} {t u : TypeId} (h : fn.results = #[.cell p t, .cell q u]) (tmps : Array Value) (w : World) (g g' : Nat) (v v' : Value) (hp : tmps.getD p undef = .pointer (some ⟨g, 0, none⟩)) (hq : tmps.getD q undef = .pointer (some ⟨g', 0, none⟩))
    (ht : plainT P t = true) (hu : plainT P u = true) (hc : w.cell? ⟨g, 0, none⟩ = some v) (hc' : w.cell? ⟨g', 0, none⟩ = some v') : (results fn tmps).run P w = .ok (.tuple #[v, v']) w := by
  have a1 : (asAddr (.pointer (some ⟨g, 0, none⟩))).run P w = .ok ⟨g, 0, none⟩ w := by simp [asAddr]
  have a2 : (asAddr (.pointer (some ⟨g', 0, none⟩))).run P w = .ok ⟨g', 0, none⟩ w := by simp [asAddr]
  have hp2 : tmps[p]?.getD undef = .pointer (some ⟨g, 0, none⟩) := by simpa using hp
  have hq2 : tmps[q]?.getD undef = .pointer (some ⟨g', 0, none⟩) := by simpa using hq
  simp only [results, h]
  simp [Sem.run_bind, Result.andThen, hp2, hq2, a1, a2, Held.run_loadVar_cell t _ w v ht hc, Held.run_loadVar_cell u _ w v' hu hc']
set_option maxRecDepth 100000 in
theorem takes_bad (A : Option Addr) (n c : Nat) (size : Int) (w : World) (hs : mayS size = false) :
    Calls Tryd.prog 16 #[.slice A n c, .int .i64 size] w fun e w' => e = .returned (.tuple #[.slice none 0 0, .int .i64 1]) ∧ Below w.heap.size w w' := by
  go_enter Tryd.func16, Tryd.ntmps16
  go_wp2_with (first
    | (refine wpList_alloc_cell (w := w) rfl 26 rfl (.slice none 0 0) (by kernel_rfl) rfl ?_; intro w1 q1 g1 z1)
    | (refine wpList_alloc_cell (w := w1) rfl 28 rfl (.int .i64 0) (by kernel_rfl) rfl ?_; intro w2 q2 g2 z2; have q12 := Held.keep_cells q1 g2 (by simp)))
  have l1 : w.heap.size < w1.heap.size := (Array.getElem?_eq_some_iff.1 q1).1
  have b2 : Below w.heap.size w w2 := ((Below.refl _ w).grown g1 (Nat.le_refl _) (by simp)).grown g2 g1.size (by simp)
  clear g1 g2 z1 z2 q1
  refine (bmay_any size w2).mono ?_
  rintro e u1 ⟨rfl, rfl⟩
  rw [hs]
  go_wp2_with (first
    | (refine wpList_store_box (w := w2) rfl 26 _ _ rfl w.heap.size rfl 26 _ (.slice none 0 0) rfl q12 (by kernel_rfl) rfl rfl ?_; intro w3 q3 g3; have q23 := Held.keep_cells q2 g3 (by simp; omega))
    | (refine wpList_store_box (w := w3) rfl 28 _ _ rfl w1.heap.size rfl 28 _ (.int .i64 1) rfl q23 (by kernel_rfl) rfl rfl ?_; intro w4 q4 g4; have q34 := Held.keep_cells q3 g4 (by simp; omega)))
  exact bodyPost_ret (results_two rfl _ _ w.heap.size w1.heap.size _ _ rfl rfl (by kernel_rfl) (by kernel_rfl) (cell_of_one q34) (cell_of_one q4)) rfl ⟨rfl, (b2.grown g3 b2.size (fun r e => by cases e; omega)).grown g4 (Nat.le_trans b2.size g3.size) (fun r e => by cases e; omega)⟩
set_option maxRecDepth 100000 in
theorem takes_short (A : Option Addr) (n c : Nat) (size : Int) (w : World) (hs : mayS size = true) (hn : (n : Int) < 32 * size) :
    Calls Tryd.prog 16 #[.slice A n c, .int .i64 size] w fun e w' => e = .returned (.tuple #[.slice none 0 0, .int .i64 3]) ∧ Below w.heap.size w w' := by
  have hb : 1 ≤ size ∧ size ≤ 8 := by simpa [mayS] using hs
  go_enter Tryd.func16, Tryd.ntmps16
  go_wp2_with (first
    | (refine wpList_alloc_cell (w := w) rfl 26 rfl (.slice none 0 0) (by kernel_rfl) rfl ?_; intro w1 q1 g1 z1)
    | (refine wpList_alloc_cell (w := w1) rfl 28 rfl (.int .i64 0) (by kernel_rfl) rfl ?_; intro w2 q2 g2 z2; have q12 := Held.keep_cells q1 g2 (by simp)))
  have l1 : w.heap.size < w1.heap.size := (Array.getElem?_eq_some_iff.1 q1).1
  have b2 : Below w.heap.size w w2 := ((Below.refl _ w).grown g1 (Nat.le_refl _) (by simp)).grown g2 g1.size (by simp)
  clear g1 g2 z1 z2 q1
  refine (bmay_any size w2).mono ?_
  rintro e u1 ⟨rfl, rfl⟩
  rw [hs]
  go_wp2_with fail
  refine (bplain_any size w2 (by omega) hb.2).mono ?_
  rintro e u1 ⟨rfl, rfl⟩
  go_wp2_with (first
    | (refine wpList_store_box (w := w2) rfl 26 _ _ rfl w.heap.size rfl 26 _ (.slice none 0 0) rfl q12 (by kernel_rfl) rfl rfl ?_; intro w3 q3 g3; have q23 := Held.keep_cells q2 g3 (by simp; omega))
    | (refine wpList_store_box (w := w3) rfl 28 _ _ rfl w1.heap.size rfl 28 _ (.int .i64 3) rfl q23 (by kernel_rfl) rfl rfl ?_; intro w4 q4 g4; have q34 := Held.keep_cells q3 g4 (by simp; omega)))
  exact bodyPost_ret (results_two rfl _ _ w.heap.size w1.heap.size _ _ rfl rfl (by kernel_rfl) (by kernel_rfl) (cell_of_one q34) (cell_of_one q4)) rfl ⟨rfl, (b2.grown g3 b2.size (fun r e => by cases e; omega)).grown g4 (Nat.le_trans b2.size g3.size) (fun r e => by cases e; omega)⟩
set_option maxRecDepth 100000 in
theorem takes_long (A : Option Addr) (n c : Nat) (size : Int) (w : World) (hs : mayS size = true) (hn : 32 * size < (n : Int)) :
    Calls Tryd.prog 16 #[.slice A n c, .int .i64 size] w fun e w' => e = .returned (.tuple #[.slice none 0 0, .int .i64 4]) ∧ Below w.heap.size w w' := by
  have hb : 1 ≤ size ∧ size ≤ 8 := by simpa [mayS] using hs
  have hn' : ¬ (n : Int) < 32 * size := by omega
  go_enter Tryd.func16, Tryd.ntmps16
  go_wp2_with (first
    | (refine wpList_alloc_cell (w := w) rfl 26 rfl (.slice none 0 0) (by kernel_rfl) rfl ?_; intro w1 q1 g1 z1)
    | (refine wpList_alloc_cell (w := w1) rfl 28 rfl (.int .i64 0) (by kernel_rfl) rfl ?_; intro w2 q2 g2 z2; have q12 := Held.keep_cells q1 g2 (by simp)))
  have l1 : w.heap.size < w1.heap.size := (Array.getElem?_eq_some_iff.1 q1).1
  have b2 : Below w.heap.size w w2 := ((Below.refl _ w).grown g1 (Nat.le_refl _) (by simp)).grown g2 g1.size (by simp)
  clear g1 g2 z1 z2 q1
  refine (bmay_any size w2).mono ?_
  rintro e u1 ⟨rfl, rfl⟩
  rw [hs]
  go_wp2_with fail
  refine (bplain_any size w2 (by omega) hb.2).mono ?_
  rintro e u1 ⟨rfl, rfl⟩
  go_wp2_with fail
  refine (bplain_any size w2 (by omega) hb.2).mono ?_
  rintro e u1 ⟨rfl, rfl⟩
  go_wp2_with (first
    | (refine wpList_store_box (w := w2) rfl 26 _ _ rfl w.heap.size rfl 26 _ (.slice none 0 0) rfl q12 (by kernel_rfl) rfl rfl ?_; intro w3 q3 g3; have q23 := Held.keep_cells q2 g3 (by simp; omega))
    | (refine wpList_store_box (w := w3) rfl 28 _ _ rfl w1.heap.size rfl 28 _ (.int .i64 4) rfl q23 (by kernel_rfl) rfl rfl ?_; intro w4 q4 g4; have q34 := Held.keep_cells q3 g4 (by simp; omega)))
  exact bodyPost_ret (results_two rfl _ _ w.heap.size w1.heap.size _ _ rfl rfl (by kernel_rfl) (by kernel_rfl) (cell_of_one q34) (cell_of_one q4)) rfl ⟨rfl, (b2.grown g3 b2.size (fun r e => by cases e; omega)).grown g4 (Nat.le_trans b2.size g3.size) (fun r e => by cases e; omega)⟩
def TkI (w : World) (r4 r5 g lb : Nat) (zs : List Int) (size k : Nat) (W : World) : Prop :=
  k ≤ size ∧ W.heap[r4]? = some (.cells #[.slice none 0 0] 26 (0, 0)) ∧ W.heap[r5]? = some (.cells #[.int .i64 0] 28 (0, 0)) ∧ W.heap[lb]? = some (.cells #[.slice (some ⟨g, 0, none⟩) k size] 26 (0, 0)) ∧
    OwnR W w.heap.size (.slice (some ⟨g, 0, none⟩) k size) (recsOf zs k) ∧ (∀ i, i < k → mayB (word zs i) = true) ∧ Below w.heap.size w W
def TkX (w : World) (r4 r5 : Nat) (zs : List Int) (size : Nat) (c : Code) (k : Nat) (W : World) : Prop :=
  c = .ret ∧ W.heap[r4]? = some (.cells #[.slice none 0 0] 26 (0, 0)) ∧ W.heap[r5]? = some (.cells #[.int .i64 4] 28 (0, 0)) ∧ allOk zs size = false ∧ Below w.heap.size w W
theorem TkI.far (w : World) (r4 r5 g lb : Nat) (zs : List Int) (size : Nat) {B : Nat} (hw : w.heap.size < B) (h4 : r4 < B) (h5 : r5 < B) (hg : g < B) (hl : lb < B) : Far B (TkI w r4 r5 g lb zs size) := by
  intro k W W' row ⟨h0, h1, h2, h3, ho, ha, hb⟩ hgr hr
  have hne : ∀ i, i < B → some i ≠ row := fun i hi e => by have := hr i e.symm; omega
  exact ⟨h0, Held.keep_cells h1 hgr (hne _ h4), Held.keep_cells h2 hgr (hne _ h5), Held.keep_cells h3 hgr (hne _ hl), ho.kept hgr (.inr (hne _ hg)), ha, hb.grown hgr hb.size (fun r e => by have := hr r e; omega)⟩
theorem TkX.far (w : World) (r4 r5 : Nat) (zs : List Int) (size : Nat) (c : Code) {B : Nat} (hw : w.heap.size < B) (h4 : r4 < B) (h5 : r5 < B) : Far B (TkX w r4 r5 zs size c) := by
  intro k W W' row ⟨h0, h1, h2, ha, hb⟩ hgr hr
  have hne : ∀ i, i < B → some i ≠ row := fun i hi e => by have := hr i e.symm; omega
  exact ⟨h0, Held.keep_cells h1 hgr (hne _ h4), Held.keep_cells h2 hgr (hne _ h5), ha, hb.grown hgr hb.size (fun r e => by have := hr r e; omega)⟩
theorem OwnR.cells_ {w : World} {base g n c : Nat} {rs : List R} (h : OwnR w base (.slice (some ⟨g, 0, none⟩) n c) rs) : ∃ cs, w.heap[g]? = some (.cells cs 36 (0, 0)) := by
  rcases h.2 with ⟨e, _⟩ | ⟨g', cap, cur, e, _, hgg, _⟩
  · cases e
  · injection e with e1
    injection e1 with e1
    injection e1 with e1
    subst e1
    exact ⟨_, hgg⟩
theorem atT_some {zs : List Int} {size k : Nat} {x : Array Value × Int} (h : atT zs size k = some x) : k < size ∧ x = (takenC (word zs k), takenE (word zs k)) := by
  unfold atT at h
  split at h
  · rename_i hk
    injection h with h
    exact ⟨hk, h.symm⟩
  · cases h
theorem atT_none {zs : List Int} {size k : Nat} (h : atT zs size k = none) : ¬ k < size := by
  unfold atT at h
  split at h
  · cases h
  · assumption
set_option maxRecDepth 100000 in
set_option maxHeartbeats 4000000 in
theorem takes_at (B : Nat) (b off c n : Nat) (zs : List Int) (size : Nat) (w : World) (h : Ints w .u8 B (some ⟨b, off, none⟩) n zs) (hb : b < B) (hB : B ≤ w.heap.size) (hc : n ≤ c) (hn : 32 * size = n) (h1 : 1 ≤ size) (h8 : size ≤ 8) :
    Calls Tryd.prog 16 #[.slice (some ⟨b, off, none⟩) n c, .int .i64 (size : Int)] w fun e w' => ∃ A' n' c', e = .returned (.tuple #[.slice A' n' c', .int .i64 (if allOk zs size = true then 0 else 4)]) ∧ OwnR w' w.heap.size (.slice A' n' c') (if allOk zs size = true then recsOf zs size else []) ∧ Below w.heap.size w w' := by
  have hs : mayS (size : Int) = true := by simp [mayS]; omega
  have hs0 : (0 : Int) ≤ (size : Int) := by omega
  have hs8 : (size : Int) ≤ 8 := by omega
  have HNI := Lib.hid (show 32 * (size : Int) = (n : Int) by omega)
  have HL := Lib.hid h.1
  have hit := fun M bx S w6 hx hSx hI hSB hB6 => taken_stop M bx S B b off n c zs size w6 hx hSx hI hSB hb hB6 hn hc h8
  have HN := Lib.hid hn
  clear hn
  obtain ⟨E, hE⟩ : ∃ E, (if allOk zs size = true then (0 : Int) else 4) = E := ⟨_, rfl⟩
  obtain ⟨RR, hRR⟩ : ∃ RR, (if allOk zs size = true then recsOf zs size else []) = RR := ⟨_, rfl⟩
  rw [hE, hRR]
  have HEE := Lib.hid hE
  have HRR := Lib.hid hRR
  clear hE hRR
  obtain ⟨i0, hi0, hsb⟩ := Option.map_eq_some_iff.1 info_recs
  simp only [Prod.mk.injEq] at hsb
  have hz0 : i0.zero = some (.agg #[.bool false, .int .i64 0, .int .i64 0, .int .i64 0]) := by
    have := zero_rec
    rw [hi0] at this
    exact this
  refine (callsIn_wide (n := 3)).1 ?_
  refine callsIn_of_wp_marks Tryd.func16 rfl trivial ?_ rfl
  simp only [Tryd.ntmps16, List.size_toArray, List.length_cons, List.length_nil, Nat.reduceAdd, Nat.reduceSub, Array.replicate_succ, Array.replicate_zero, List.push_toArray, List.append_toArray, List.nil_append, List.cons_append]
  refine wpIn_wide.2 ?_
  go_wp2_with (first
    | (refine wpList_alloc_cell (w := w) rfl 26 rfl (.slice none 0 0) (by kernel_rfl) rfl ?_; intro w1 q1 g1 z1)
    | (refine wpList_alloc_cell (w := w1) rfl 28 rfl (.int .i64 0) (by kernel_rfl) rfl ?_; intro w2 q2 g2 z2; have q12 := Held.keep_cells q1 g2 (by simp)))
  have l1 : w.heap.size < w1.heap.size := (Array.getElem?_eq_some_iff.1 q1).1
  have b2 : Below w.heap.size w w2 := ((Below.refl _ w).grown g1 (Nat.le_refl _) (by simp)).grown g2 g1.size (by simp)
  clear g1 g2 z1 z2 q1
  refine (bmay_any (size : Int) w2).mono ?_
  rintro e u1 ⟨rfl, rfl⟩
  rw [hs]
  go_wp2_with fail
  refine (bplain_any (size : Int) w2 hs0 hs8).mono ?_
  rintro e u1 ⟨rfl, rfl⟩
  rw [HNI.out]
  go_wp2_with fail
  refine (bplain_any (size : Int) w2 hs0 hs8).mono ?_
  rintro e u1 ⟨rfl, rfl⟩
  rw [HNI.out]
  go_wp2_with (first
    | (refine wpList_make_own w2 rfl _ _ 26 rfl w.heap.size 36 i0 (.agg #[.bool false, .int .i64 0, .int .i64 0, .int .i64 0]) 4 Tryd.underlying26 hi0 hz0 hsb.1 .i64 .i64 _ size rfl rfl rfl (by rw [hsb.2]; omega) (by unfold maxLen; omega) b2.size ?_; intro w3 o3 g3)
    | (refine wpList_alloc_cell (w := w3) rfl 26 rfl (.slice none 0 0) (by kernel_rfl) rfl ?_; intro w4 q4 g4 z4)
    | (refine wpList_store_box (w := w4) rfl 26 _ _ rfl w3.heap.size rfl 26 _ (.slice (some ⟨w2.heap.size, 0, none⟩) 0 size) rfl q4 (by kernel_rfl) rfl rfl ?_; intro w5 q5 g5))
  have l3 : w2.heap.size < w3.heap.size := (o3.lt _ rfl).2
  have l2 : w1.heap.size < w2.heap.size := (Array.getElem?_eq_some_iff.1 q2).1
  have s4 := g4.size
  have p1 : w5.heap[w.heap.size]? = some (.cells #[.slice none 0 0] 26 (0, 0)) := Held.keep_cells (Held.keep_cells (Held.keep_cells q12 g3 (by simp)) g4 (by simp)) g5 (by simp; omega)
  have p2 : w5.heap[w1.heap.size]? = some (.cells #[.int .i64 0] 28 (0, 0)) := Held.keep_cells (Held.keep_cells (Held.keep_cells q2 g3 (by simp)) g4 (by simp)) g5 (by simp; omega)
  have b5 : Below w.heap.size w w5 := ((b2.grown g3 b2.size (by simp)).grown g4 (by omega) (by simp)).grown g5 (by omega) (fun r e => by cases e; omega)
  have o5 : OwnR w5 w.heap.size (.slice (some ⟨w2.heap.size, 0, none⟩) 0 size) (recsOf zs 0) := by
    have o0 : OwnR w3 w.heap.size (.slice (some ⟨w2.heap.size, 0, none⟩) 0 size) [] := o3
    exact (o0.kept g4 (.inr (by simp [Value.ownBlock]))).kept g5 (.inr (fun e => by have e : some w2.heap.size = some w3.heap.size := e; injection e with e; omega))
  have l5 : w3.heap.size < w5.heap.size := (Array.getElem?_eq_some_iff.1 q5).1
  have k5 : TkI w w.heap.size w1.heap.size w2.heap.size w3.heap.size zs size 0 w5 := ⟨by omega, p1, p2, q5, o5, fun i hi => absurd hi (by omega), b5⟩
  clear p1 p2 q5 o5 b5 o3 g3 q4 g4 z4 g5 q12 q2 s4 b2
  refine (taken_any (some ⟨b, off, none⟩) n c w5).mono ?_
  rintro e w6 ⟨bx, rfl, qx, hbx, b6⟩
  have k6 : TkI w w.heap.size w1.heap.size w2.heap.size w3.heap.size zs size 0 w6 := TkI.far w _ _ _ _ zs size (B := w5.heap.size) (by omega) (by omega) (by omega) (by omega) l5 0 w5 w6 none k5 (grown_of_below b6 none) (fun r e => by cases e)
  have l6 : w3.heap.size < w6.heap.size := Nat.lt_of_lt_of_le l5 b6.size
  have c6 : Below w.heap.size w w6 := k6.2.2.2.2.2.2
  have hit := fun M => hit M bx (fun b => b = w.heap.size ∨ b = w1.heap.size ∨ b = w2.heap.size ∨ b = w3.heap.size) w6 (qx.cell rfl) (by omega) (h.below (c6.mono hB)) (fun b hb => by omega) (Nat.le_trans hB c6.size)
  clear k5 b6 qx hbx c6 h hb
  go_wp2_with fail
  refine (wpIn_wide (n := 3)).1 ?_
  refine wpIn_rangeFunc_stop rfl (by omega) (gf := 45) (lb := #[.pointer (some ⟨bx, 0, none⟩)]) rfl trivial (enters_of Tryd.func45 (by kernel_rfl) rfl)
    (hit _) (fun h k => h.trans k) (fun W l o o' hl ho hc _ => Only.put W l o o' ho hc) (Below.refl _ _) (fun _ => rfl)
    (size + 1) (TkI w w.heap.size w1.heap.size w2.heap.size w3.heap.size zs size) (TkX w w.heap.size w1.heap.size zs size) (TkI.far w _ _ _ _ zs size (by omega) (by omega) (by omega) (by omega) (by omega)) (fun c => TkX.far w _ _ zs size c (by omega) (by omega) (by omega)) (fun k W h => by have := h.1; omega) k6
    (fun x a' k W => TkI w w.heap.size w1.heap.size w2.heap.size w3.heap.size zs size k W ∧ ∃ p, w3.heap.size < p ∧ Blk W p 36 x.1 ∧ a' = { tmps := #[.slice (some ⟨b, off, none⟩) n c, .int .i64 (size : Int), undef, undef, .pointer (some ⟨w.heap.size, 0, none⟩), .pointer (some ⟨w1.heap.size, 0, none⟩), .pointer (some ⟨w3.heap.size, 0, none⟩), .pointer (some ⟨p, 0, none⟩), .int .i64 x.2, .int .i64 (size : Int), .bool true, .bool false, .slice (some ⟨b, off, none⟩) n c, .int .i64 (n : Int), .int .i64 (size : Int), .int .i64 (n : Int), .bool false, .slice (some ⟨b, off, none⟩) n c, .int .i64 (n : Int), .int .i64 (size : Int), .int .i64 (n : Int), .bool false, .int .i64 (size : Int), .slice (some ⟨w2.heap.size, 0, none⟩) 0 size, .slice (some ⟨b, off, none⟩) n c, .func (.func 45) #[] #[.pointer (some ⟨bx, 0, none⟩)], .agg x.1, .int .i64 x.2, undef, undef, undef, undef, undef, undef, undef, undef], defers := [] }) ?ib ?assign ?body ?done ?stop
  case ib =>
    rintro x a' k W W' row ⟨hi, p, hp, hr, h3⟩ hgr hrow
    exact ⟨TkI.far w _ _ _ _ zs size (B := w6.heap.size) (by omega) (by omega) (by omega) (by omega) (by omega) k W W' row hi hgr (fun r e => (hrow r e).1), p, hp, blk_own hr hgr hrow, h3⟩
  case assign =>
    intro l k x W K hi hat hsz hK
    obtain ⟨hks, hx⟩ := atT_some hat
    have HX1 := Lib.hid (show x.1.size = 4 by rw [hx]; exact takenC_size _)
    have HX2 := Lib.hid (show x.1.all (·.oneCell') = true by rw [hx]; exact takenC_one _)
    clear hx
    have hz : (#[26, 27].zip (encT x)) = #[(26, .agg x.1), (27, .int .i64 x.2)] := by simp [encT]
    simp only [encT, Held.zip_two, List.setIfInBounds_toArray, List.set_cons_zero, List.set_cons_succ]
    gi_wp2_with (first
      | (refine Held.wpListIn_one (r := some l) rfl (by intro c e; cases e) ?_; refine wpList_alloc_blk (w := W) rfl 36 rfl _ zero_rec ?_; intro v2 q2 g2 z2; refine wpList_nil ⟨rfl, ?_⟩)
      | (refine Held.wpListIn_one (r := some l) rfl (by intro c e; cases e) ?_; refine wpList_store_blk (w := v2) rfl 36 _ _ rfl W.heap.size 4 rfl 36 _ x.1 rfl q2 info_rec HX1.out rfl HX2.out ?_; intro v3 q3 g3 z3; refine wpList_nil ⟨rfl, ?_⟩))
    have b3 : Below W.heap.size W v3 := ((Below.refl _ W).grown g2 (Nat.le_refl _) (by simp)).grown g3 g2.size (fun r e => by cases e; exact Nat.le_refl _)
    exact hK _ _ ((Held.others_of_new g2).trans (Held.others_of_grown q2 g3)) (Only.of_below b3) ⟨TkI.far w _ _ _ _ zs size (B := W.heap.size) (by omega) (by omega) (by omega) (by omega) (by omega) k _ _ none hi (grown_of_below b3 none) (fun r e => by cases e), W.heap.size, by omega, q3, rfl⟩
  case body =>
    rintro l k x a' W hl hrec ⟨⟨i0, i1, i2, i3, i4, i5, i6⟩, p, hp, hr, rfl⟩ hat hsz
    obtain ⟨hks, rfl⟩ := atT_some hat
    clear hat hrec hit
    by_cases hm : mayB (word zs k) = true
    · have hwl := word_length (i := k) (by rw [HL.out, HN.out]) hks
      have HC := Lib.hid (show takenC (word zs k) = #[.bool (recT (word zs k)).d, .int .i64 (recT (word zs k)).k, .int .i64 (recT (word zs k)).v, .int .i64 (recT (word zs k)).s] by
        unfold takenC
        rw [if_pos ⟨hwl, hm⟩]
        rfl)
      have HE := Lib.hid (show takenE (word zs k) = 0 by
        unfold takenE
        rw [if_neg (by omega), if_pos ⟨hwl, hm⟩])
      have HALL := Lib.hid (show ∀ i, i < k + 1 → mayB (word zs i) = true from fun i hi => by
        by_cases hik : i < k
        · exact i5 i hik
        · rw [show i = k by omega]; exact hm)
      have HS := Lib.hid (recsOf_snoc zs k)
      have hrw := recT_wf (word zs k)
      have HRL := Lib.hid (recsOf_length zs k)
      have HRL2 := Lib.hid (recsOf_length zs (k + 1))
      dsimp only at hr ⊢
      rw [HC.out] at hr
      rw [HC.out, HE.out]
      generalize recT (word zs k) = x at HC HS hrw hr
      have cl := cell_of_one i3
      have hWW : w6.heap.size ≤ W.heap.size := hsz
      obtain ⟨cs, hcs⟩ := i4.cells_
      clear hm i5 hwl HC
      gi_wp2_with (first
        | (refine Held.wpListIn_one (r := some l) rfl (by intro c e; cases e) ?_; refine wpList_load_blk (w := W) rfl 36 _ rfl p 4 rfl 36 _ hr _ Tryd.underlying36 rfl (by kernel_rfl) rfl ?_; refine wpList_nil ⟨rfl, ?_⟩)
        | (refine Held.wpListIn_one (r := some l) rfl (by intro c e; cases e) ?_; refine wpList_build_rec (w := W) rfl _ rfl x rfl ?_; intro v2 q2 g2 z2; refine wpList_nil ⟨rfl, ?_⟩; have r2 : Recs v2 v2.heap.size (some ⟨W.heap.size, 0, none⟩) 1 [x] := recs_of_blk (rs := [x]) (qs := []) (by rw [List.append_nil, flat_one]; exact q2) (fun r hr => by rw [List.mem_singleton.1 hr]; exact hrw); have o2 : OwnR v2 w.heap.size (.slice (some ⟨w2.heap.size, 0, none⟩) (recsOf zs k).length size) (recsOf zs k) := (by rw [HRL.out]; exact i4.kept g2 (.inr (by simp [Value.ownBlock]))); obtain ⟨v3, hrun, o3, g3⟩ := run_append_recs_fits v2 w.heap.size w2.heap.size size v2.heap.size 1 1 (some ⟨W.heap.size, 0, none⟩) (recsOf zs k) [x] o2 r2 (by rw [HRL.out]; omega); rw [HRL.out] at hrun o3)
        | (refine Held.wpListIn_one (r := some l) rfl (by intro c e; cases e) ?_; refine wpList_append_ran (w := v2) rfl _ _ 26 26 rfl (.slice (some ⟨w2.heap.size, 0, none⟩) k size) (.slice (some ⟨W.heap.size, 0, none⟩) 1 1) _ v3 rfl rfl hrun ?_; refine wpList_nil ⟨rfl, ?_⟩)
        | (refine Held.wpListIn_store_box (w := v3) rfl 26 _ _ rfl w3.heap.size rfl 26 _ (.slice (some ⟨w2.heap.size, 0, none⟩) (k + 1) size) rfl (Held.keep_cells (Held.keep_cells i3 g2 (by simp)) g3 (by simp; omega)) (by kernel_rfl) rfl rfl ?_; intro v4 q4 g4))
      have o4 : OwnR v4 w.heap.size (.slice (some ⟨w2.heap.size, 0, none⟩) (k + 1) size) (recsOf zs (k + 1)) := by
        have o3' : OwnR v3 w.heap.size (.slice (some ⟨w2.heap.size, 0, none⟩) (k + 1) size) (recsOf zs (k + 1)) := by
          unfold OwnR
          rw [HRL2.out, HS.out]
          exact o3
        exact o3'.kept g4 (.inr (by simp [Value.ownBlock]; omega))
      have kp : ∀ {i : Nat} {cs : Array Value} {t : TypeId}, W.heap[i]? = some (.cells cs t (0, 0)) → i ≠ w2.heap.size → i ≠ w3.heap.size → v4.heap[i]? = some (.cells cs t (0, 0)) := fun h ha hb => Held.keep_cells (Held.keep_cells (Held.keep_cells h g2 (by simp)) g3 (by simpa using ha)) g4 (by simpa using hb)
      have b4 : Below w.heap.size w v4 := ((i6.grown g2 i6.size (by simp)).grown g3 (Nat.le_trans i6.size g2.size) (fun r e => by cases e; omega)).grown g4 (Nat.le_trans (Nat.le_trans i6.size g2.size) g3.size) (fun r e => by cases e; omega)
      exact ⟨((Held.others_of_new g2).trans (Held.others_of_grown (Held.keep_cells hcs g2 (by simp)) g3)).trans (Held.others_of_grown (Held.keep_cells (Held.keep_cells i3 g2 (by simp)) g3 (by simp; omega)) g4),
        ((Only.of_grown g2 (fun r e => by cases e)).trans (Only.of_grown g3 (fun r e => by cases e; exact .inr (.inr (.inl rfl))))).trans (Only.of_grown g4 (fun r e => by cases e; exact .inr (.inr (.inr rfl)))),
        by omega, kp i1 (by omega) (by omega), kp i2 (by omega) (by omega), q4, o4, HALL.out, b4⟩
    · have HE := Lib.hid (show takenE (word zs k) = 4 by
        unfold takenE
        rw [if_neg (by have := word_length (i := k) (by rw [HL.out, HN.out]) hks; omega), if_neg (fun h => hm h.2)])
      have HA := Lib.hid (show allOk zs size = false by
        cases hq : allOk zs size
        · rfl
        · exact absurd (allOk_iff.1 hq k hks) hm)
      dsimp only at hr ⊢
      rw [HE.out]
      generalize takenC (word zs k) = C at hr
      clear hm i5
      gi_wp2_with (first
        | (refine Held.wpListIn_store_box (w := W) rfl 26 _ _ rfl w.heap.size rfl 26 _ (.slice none 0 0) rfl i1 (by kernel_rfl) rfl rfl ?_; intro v2 q2 g2)
        | (refine Held.wpListIn_store_box (w := v2) rfl 28 _ _ rfl w1.heap.size rfl 28 _ (.int .i64 4) rfl (Held.keep_cells i2 g2 (by simp; omega)) (by kernel_rfl) rfl rfl ?_; intro v3 q3 g3))
      exact ⟨(Held.others_of_grown i1 g2).trans (Held.others_of_grown (Held.keep_cells i2 g2 (by simp; omega)) g3), rfl, Held.keep_cells q2 g3 (by simp; omega), q3, HA.out, (i6.grown g2 i6.size (fun r e => by cases e; omega)).grown g3 (Nat.le_trans i6.size g2.size) (fun r e => by cases e; omega)⟩
  case done =>
    rintro D k W hD hat ⟨i0, i1, i2, i3, i4, i5, i6⟩ hDl
    obtain rfl : k = size := by have := atT_none hat; omega
    have HA := Lib.hid (allOk_iff.2 i5)
    have cl := cell_of_one i3
    have hDW : D < W.heap.size := (Array.getElem?_eq_some_iff.1 hDl).1
    clear i5 hat hit
    go_wp2_with (first
      | (refine wpList_store_box (w := W) rfl 26 _ _ rfl w.heap.size rfl 26 _ (.slice (some ⟨w2.heap.size, 0, none⟩) k k) rfl i1 (by kernel_rfl) rfl rfl ?_; intro v2 q2 g2)
      | (refine wpList_store_box (w := v2) rfl 28 _ _ rfl w1.heap.size rfl 28 _ (.int .i64 0) rfl (Held.keep_cells i2 g2 (by simp; omega)) (by kernel_rfl) rfl rfl ?_; intro v3 q3 g3))
    have d3 := (g3.block D (by have := g2.size; omega) (by simp; omega)).trans ((g2.block D hDW (by simp; omega)).trans hDl)
    have o3 := (i4.kept g2 (.inr (by simp [Value.ownBlock]; omega))).kept g3 (.inr (by simp [Value.ownBlock]; omega))
    have b3 : Below w.heap.size w v3 := (i6.grown g2 i6.size (fun r e => by cases e; omega)).grown g3 (Nat.le_trans i6.size g2.size) (fun r e => by cases e; omega)
    refine ⟨by simp, .inl ⟨_, _, rfl, run_takeDeferred d3, ?_⟩⟩
    refine ⟨_, results_two rfl _ _ w.heap.size w1.heap.size _ _ rfl rfl (by kernel_rfl) (by kernel_rfl) (cell_of_one ((World.putObj_heap_other (by omega)).trans (Held.keep_cells q2 g3 (by simp; omega)))) (cell_of_one ((World.putObj_heap_other (by omega)).trans q3)), some ⟨w2.heap.size, 0, none⟩, k, k, by rw [← HEE.out, HA.out]; rfl, ?_, b3.grown (grownBy_putObj' _ D _) b3.size (fun r e => by cases e; omega)⟩
    rw [← HRR.out, HA.out]
    exact o3.kept (grownBy_putObj' _ D _) (.inr (by simp [Value.ownBlock]; omega))
  case stop =>
    rintro D c k W hD ⟨rfl, i1, i2, ha, i6⟩ hDl
    clear hit
    gi_wp2_with fail
    refine ⟨by simp, .inl ⟨_, _, rfl, run_takeDeferred hDl, ?_⟩⟩
    refine ⟨_, results_two rfl _ _ w.heap.size w1.heap.size _ _ rfl rfl (by kernel_rfl) (by kernel_rfl) (cell_of_one ((World.putObj_heap_other (by omega)).trans i1)) (cell_of_one ((World.putObj_heap_other (by omega)).trans i2)), none, 0, 0, by rw [← HEE.out, ha]; rfl, ?_, i6.grown (grownBy_putObj' _ D _) i6.size (fun r e => by cases e; omega)⟩
    rw [← HRR.out, ha]
    exact OwnR.nil _ _
theorem takes_any (B : Nat) (A : Option Addr) (n c : Nat) (zs : List Int) (size : Int) (w : World) (h : Ints w .u8 B A n zs) (hB : B ≤ w.heap.size) (hc : n ≤ c) :
    Calls Tryd.prog 16 #[.slice A n c, .int .i64 size] w fun e w' => ∃ A' n' c', e = .returned (.tuple #[.slice A' n' c', .int .i64 (takesE zs size)]) ∧ OwnR w' w.heap.size (.slice A' n' c') (takesR zs size) ∧ Below w.heap.size w w' := by
  have hl := h.1
  by_cases hs : mayS size = true
  · have hb : 1 ≤ size ∧ size ≤ 8 := by simpa [mayS] using hs
    by_cases h1 : (n : Int) < 32 * size
    · refine (takes_short A n c size w hs h1).mono ?_
      rintro e w' ⟨rfl, hw⟩
      refine ⟨none, 0, 0, ?_, ?_, hw⟩
      · unfold takesE
        rw [if_neg (by simp [hs]), hl, if_pos h1]
      · unfold takesR
        rw [if_neg (fun h => by have := h.2.1; omega)]
        exact OwnR.nil _ _
    · by_cases h2 : 32 * size < (n : Int)
      · refine (takes_long A n c size w hs h2).mono ?_
        rintro e w' ⟨rfl, hw⟩
        refine ⟨none, 0, 0, ?_, ?_, hw⟩
        · unfold takesE
          rw [if_neg (by simp [hs]), hl, if_neg h1, if_pos h2]
        · unfold takesR
          rw [if_neg (fun h => by have := h.2.1; omega)]
          exact OwnR.nil _ _
      · obtain ⟨q, rfl⟩ : ∃ q : Nat, (q : Int) = size := ⟨size.toNat, by omega⟩
        have hn : n = 32 * q := by omega
        subst hn
        obtain ⟨b, off, rfl, hbB, _⟩ := h.2.2 (by omega)
        refine (takes_at B b off c _ zs q w h hbB hB hc rfl (by omega) (by omega)).mono ?_
        rintro e w' ⟨A', n', c', rfl, ho, hw⟩
        refine ⟨A', n', c', ?_, ?_, hw⟩
        · have HE : takesE zs (q : Int) = if allOk zs q = true then 0 else 4 := by
            unfold takesE
            rw [if_neg (by simp [hs]), hl, if_neg h1, if_neg h2]
            rfl
          rw [HE]
        · unfold takesR
          rw [hl, Int.toNat_natCast]
          by_cases ha : allOk zs q = true
          · rw [if_pos ha] at ho
            rw [if_pos ⟨hs, by omega, ha⟩]
            exact ho
          · rw [if_neg ha] at ho
            rw [if_neg (fun h => ha h.2.2)]
            exact ho
  · have hs' : mayS size = false := by simpa using hs
    refine (takes_bad A n c size w hs').mono ?_
    rintro e w' ⟨rfl, hw⟩
    refine ⟨none, 0, 0, ?_, ?_, hw⟩
    · unfold takesE
      rw [if_pos hs']
    · unfold takesR
      rw [if_neg (fun h => hs h.1)]
      exact OwnR.nil _ _
end Go.Proofs.YtjelacblnjbfgaaDoor.Rs
namespace Go.Proofs.YtjelacblnjbfgaaDoor.Ae
open Go.RowKit Go.Shelf Go.Proofs.YtjelacblnjbfgaaDoor Mem Help Go.Proofs.YtjelacblnjbfgaaDoor.Sum Po
def Arg (w : World) (B : Nat) (A : Option Addr) (n c : Nat) (zs : List Int) : Prop := Ints w .u8 B A n zs ∧ B ≤ w.heap.size ∧ Flat A c ∧ n ≤ c ∧ c ≤ maxLen
section
variable {w w' : World} {B n c : Nat} {A : Option Addr} {zs : List Int}
theorem Arg.ints (h : Arg w B A n c zs) : Ints w .u8 B A n zs := h.1
theorem Arg.len (h : Arg w B A n c zs) : zs.length = n := h.1.1
theorem Arg.bytes (h : Arg w B A n c zs) : Bs zs := Cha.bs_of_ints h.1
theorem Arg.below (h : Arg w B A n c zs) (hb : Below B w w') : Arg w' B A n c zs := ⟨h.1.below hb, Nat.le_trans h.2.1 hb.size, h.2.2⟩
theorem Arg.more (h : Arg w B A n c zs) {B' : Nat} (hB : B ≤ B') (hB' : B' ≤ w.heap.size) : Arg w B' A n c zs := ⟨h.1.more hB, hB', h.2.2⟩
theorem Arg.nil (w : World) (B : Nat) (hB : B ≤ w.heap.size) : Arg w B none 0 0 [] := ⟨Ints.nil _ _ _ _, hB, .inl rfl, Nat.le_refl _, by simp [maxLen]⟩
theorem Arg.front (h : Arg w B A n c zs) {m : Nat} (hm : m ≤ n) : Arg w B A m c (zs.take m) := ⟨h.1.front hm, h.2.1, h.2.2.1, Nat.le_trans hm h.2.2.2.1, h.2.2.2.2⟩
end
theorem arg_of_own {w : World} {base : Nat} {A : Option Addr} {n c : Nat} {zs : List Int} (h : Mem.Own w base 5 .u8 (.slice A n c) zs) (hn : zs.length = n) : Arg w w.heap.size A n c zs := by
  have hf := h.flat
  obtain ⟨_, _, ev, h1, h2, hi⟩ := h.form
  rw [hn] at ev h1 hi
  cases ev
  exact ⟨hi, Nat.le_refl _, hf, h1, h2⟩
end Go.Proofs.YtjelacblnjbfgaaDoor.Ae
namespace Go.Proofs.YtjelacblnjbfgaaDoor.Ae
open Go.RowKit Go.Shelf Go.Proofs.YtjelacblnjbfgaaDoor Mem Help Go.Proofs.YtjelacblnjbfgaaDoor.Sum Po
attribute [local irreducible] wpList wpListIn
set_option maxRecDepth 100000 in
set_option maxHeartbeats 4000000 in
theorem length_any (A : Option Addr) (n c : Nat) (w : World) (hn : n ≤ 1099511627776) :
    Calls Tryd.prog 39 #[.slice A n c] w fun e w' => ∃ g, e = .returned (.slice (some ⟨g, 0, none⟩) 8 8) ∧ w.heap.size ≤ g ∧ Row w' g 5 .u8 (digits (n : Int) 8) ∧ Below w.heap.size w w' := by
  have h0 : (0 : Int) ≤ (n : Int) := by omega
  have hn56 : (n : Int) < 72057594037927936 := by omega
  have HL := Lib.hid (digits_length 8 (n : Int))
  go_enter Tryd.func39, Tryd.ntmps39
  go_wp2_with (refine wpList_make_Row w rfl _ _ 27 rfl 5 .u8 1 Tryd.underlying27 info_u8 .i64 .i64 _ _ 8 rfl rfl rfl rfl (by omega) (by omega) ?_; intro w1 r1 g1 z1)
  have b1 : Below w.heap.size w w1 := (Below.refl _ w).grown g1 (Nat.le_refl _) (by simp)
  clear g1 z1
  go_loopw [8] (fun i wr => ∃ k : Nat, k ≤ 8 ∧ i = .int .i64 k ∧ Below w.heap.size w wr ∧ Row wr w.heap.size 5 .u8 (blend (digits (n : Int) 8) (List.replicate 8 0) k)) (fun i _ => 8 - (intOf i).toNat)
  case atStart => exact ⟨0, by omega, rfl, b1, by rw [blend_zero]; exact r1⟩
  case round =>
    clear b1 r1
    obtain ⟨k, hk, rfl, hbl, kr⟩ := hrel
    have hLen : (digits (n : Int) 8).length = (List.replicate 8 (0 : Int)).length := by rw [HL.out]; simp
    by_cases hlt : k < 8
    · have hlt' : (k : Int) < 8 := by omega
      have hk0 : (0 : Int) ≤ (k : Int) := by omega
      have hset := blend_set hLen (i := k) (by simpa using hlt)
      have HB := Lib.hid (show (blend (digits (n : Int) 8) (List.replicate 8 0) k).length = 8 by rw [blend_length hLen]; simp)
      have W2 : IntKind.i64.wrap (8 * (k : Int)) = ((8 * k : Nat) : Int) := by rw [IntKind.wrap_i64]; omega
      obtain ⟨S0, S1⟩ := shifted_lt h0 hn56 k
      have HBY := Lib.hid (byte_at (n : Int) hlt)
      obtain ⟨q, hq⟩ : ∃ q, (n : Int) / 2 ^ (8 * k) = q := ⟨_, rfl⟩
      rw [hq] at S0 S1 HBY
      have HQ := Lib.hid hq
      clear hq
      have W4 : IntKind.u8.wrap q = (digits (n : Int) 8).getD k 0 := by rw [← HBY.out, IntKind.wrap_u8]
      have HWF := Lib.hid (bs_wf (digits_bytes 8 (n : Int)) _ (digit_mem (n : Int) hlt))
      obtain ⟨z, hz⟩ : ∃ z, (digits (n : Int) 8).getD k 0 = z := ⟨_, rfl⟩
      rw [hz] at W4 HWF hset
      have HSET := Lib.hid hset
      clear hset hz hLen
      go_wp2_with (first
        | (refine wpList_shr rfl 3 3 _ _ rfl .i64 .i64 (n : Int) q (8 * k) rfl (by simp [Act.eval]) (by simp [IntKind.bits]; omega) HQ.out ?_)
        | (refine wpList_store_elem (w := wr) rfl 5 _ _ rfl w.heap.size k rfl 5 .u8 _ z rfl kr (by rw [HB.out]; exact hlt) info_u8 HWF.out ?_; intro w2 q2 g2 z2; rw [HSET.out] at q2))
      go_roundw
      case rel => exact ⟨k + 1, by omega, by go_num, hbl.grown g2 hbl.size (fun r e => by cases e; omega), q2⟩
      case measure => simp [intOf]; omega
    · have hk8 : k = 8 := by omega
      subst hk8
      have hz : blend (digits (n : Int) 8) (List.replicate 8 0) 8 = digits (n : Int) 8 := blend_all (F := digits (n : Int) 8) (a := List.replicate 8 0) hLen
      rw [hz] at kr
      clear hz hLen hlt
      go_wp2_with fail
      go_ret
      exact ⟨_, rfl, Nat.le_refl _, kr, hbl⟩
theorem zero_64b : (Tryd.prog.info? 81).bind (·.zero) = some (.agg (arr .u8 (List.replicate 64 0))) := by kernel_rfl
theorem info_64b : (Tryd.prog.info? 81).map (·.size) = some 64 := by kernel_rfl
set_option maxRecDepth 100000 in
set_option maxHeartbeats 4000000 in
theorem once_any (key nonce : List Int) (w : World) (hk : key.length = 32) (hkb : Bs key) (hnl : nonce.length = 12) (hnb : Bs nonce) (hT : Sha.Tab w 1 Cc.sigma) :
    Calls Tryd.prog 41 #[.agg (arr .u8 key), .agg (arr .u8 nonce)] w fun e w' => e = .returned (.agg (arr .u8 (macKey key nonce))) ∧ Below w.heap.size w w' := by
  have HK := Lib.hid hk
  have HN := Lib.hid hnl
  have HBL := Lib.hid (Cc.block_length key 0 nonce)
  have HBW := Lib.hid (bs_wf (Cc.block_bytes key 0 nonce))
  have HML := Lib.hid (macKey_length key nonce)
  have HMW := Lib.hid (bs_wf (macKey_bytes key nonce))
  clear hk hnl
  go_enter Tryd.func41, Tryd.ntmps41
  go_wp2_with (first
    | (refine wpList_box_Row (w := w) rfl 22 _ rfl .u8 key rfl (bs_wf hkb) ?_; intro w1 r1 g1 z1)
    | (refine wpList_box_Row (w := w1) rfl 41 _ rfl .u8 nonce rfl (bs_wf hnb) ?_; intro w2 r2 g2 z2; have p2 := r1.grown g2 (by simp))
    | (refine wpList_alloc_Row (w := w2) rfl 22 rfl .u8 32 zero_32b ?_; intro w3 r3 g3 z3; have p3 := p2.grown g3 (by simp); have q3 := r2.grown g3 (by simp))
    | (refine wpList_load_Row (w := w3) rfl 22 _ rfl w.heap.size rfl 22 .u8 _ p3 32 5 Tryd.underlying22 size_32b HK.out ?_)
    | (refine wpList_load_Row (w := w3) rfl 41 _ rfl w1.heap.size rfl 41 .u8 _ q3 12 5 Tryd.underlying41 size_12b HN.out ?_))
  obtain ⟨gr, hgr⟩ : ∃ g, w2.heap.size = g := ⟨_, rfl⟩
  have s1 := g1.size
  have s2 := g2.size
  have l3 := r3.lt
  have b3 : Below w.heap.size w w3 := (((Below.refl _ w).grown g1 (Nat.le_refl _) (by simp)).grown g2 (by omega) (by simp)).grown g3 (by omega) (by simp)
  have hwr : w.heap.size ≤ gr := by omega
  rw [hgr] at r3 ⊢
  clear hgr r1 p2 p3 q3 r2 g1 g2 g3 z1 z2 z3 s1 s2
  refine (Cha.block_any key nonce 0 w3 HK.out hkb HN.out hnb (by unfold R32; omega) (hT.below b3 hT.lt)).mono ?_
  rintro e w4 ⟨rfl, hb4⟩
  have b4 := b3.trans (hb4.mono b3.size)
  have r4 := r3.below hb4 r3.lt
  clear hb4 b3 r3
  go_wp2_with (first
    | (refine wpList_alloc_Row (w := w4) rfl 81 rfl .u8 64 zero_64b ?_; intro w5 r5 g5 z5)
    | (refine wpList_store_RowTo (w := w5) rfl 81 _ _ rfl w4.heap.size rfl 81 .u8 _ (Cc.block key 0 nonce) rfl r5 64 info_64b HBL.out (by simp) HBW.out ?_; intro w6 r6 g6 z6; have hsl : ∀ W, (Instr.sliceAt 81 (.pointer (some ⟨w4.heap.size, 0, none⟩)) none (some (.int .i64 32)) none).run Tryd.prog W = .ok (.slice (some ⟨w4.heap.size, 0, none⟩) 32 64) W := fun W => Held.run_slice_arr_h (P := Tryd.prog) 81 5 64 w4.heap.size 32 W Tryd.underlying81 (by kernel_rfl) (by omega) (by omega))
    | (refine wpList_arrayAt rfl 22 _ rfl _ 32 64 32 5 rfl Tryd.underlying22 (by omega) ?_)
    | (refine wpList_load_midRow (w := w6) rfl 22 _ rfl w4.heap.size 0 rfl 81 .u8 _ r6 32 5 Tryd.underlying22 size_32b (by rw [HBL.out]; omega) ?_; have e6 := (r4.grown g5 (by simp)).grown g6 (by intro e; injection e with e; have := r4.lt; omega); rw [List.drop_zero, show (Cc.block key 0 nonce).take 32 = macKey key nonce from rfl])
    | (refine wpList_store_RowTo (w := w6) rfl 22 _ _ rfl gr rfl 22 .u8 _ (macKey key nonce) rfl e6 32 size_32b HML.out (by simp) HMW.out ?_; intro w7 r7 g7 z7))
  have s4 := b4.size
  have b7 : Below w.heap.size w w7 := ((b4.grown g5 s4 (by simp)).grown g6 (by have := g5.size; omega) (fun r e => by cases e; omega)).grown g7 (by have := g5.size; have := g6.size; omega) (fun r e => by cases e; omega)
  refine bodyPost_ret (results_Row rfl _ _ gr _ _ _ rfl r7 32 5 Tryd.underlying22 size_32b HML.out) rfl ?_
  exact ⟨rfl, b7⟩
end Go.Proofs.YtjelacblnjbfgaaDoor.Ae
namespace Go.Proofs.YtjelacblnjbfgaaDoor.Ae
open Go.RowKit Go.Shelf Go.Proofs.YtjelacblnjbfgaaDoor Mem Help Go.Proofs.YtjelacblnjbfgaaDoor.Sum Po Go.Proofs.YtjelacblnjbfgaaDoor.Range Sha
attribute [local go_sem] Oper.semAt_some
attribute [local irreducible] wpList wpListIn
theorem wpListIn_make_Row {F : Fence} {N : Nat} {P : Program} (w : World) {ops : Array Oper} {rest : List Oper} {o : Oper} {a : Act} {Q : Exit → Act → World → Prop} (hg : o.guard = none) (l c : Operand) (t : TypeId) (hop : o.op = Op.makeSlice t l c)
    (e : TypeId) (k : IntKind) (bytes : Nat) (ht : P.underlying t = some (.slice e)) (hinfo : (P.info? e).map (fun i => (i.zero, i.size, i.bytes)) = some (some (.int k 0), 1, bytes))
    (kl kc : IntKind) (n : Nat) (hl : a.eval l = .int kl (n : Int)) (hc : a.eval c = .int kc (n : Int)) (hby : bytes ≤ 8) (hn : n ≤ 17592186044416)
    (hK : ∀ w', Row w' w.heap.size e k (List.replicate n 0) → w.grownBy w' none → Hid (w'.heap.size = w.heap.size + 1) → wpListIn F N P ops Q rest (a.put o.dst (.slice (some ⟨w.heap.size, 0, none⟩) n n)) w') :
    wpListIn F N P ops Q (o :: rest) a w := by
  obtain ⟨i, hi, hz, hs, hb⟩ := info_parts hinfo
  refine wpListIn_plain hg fun K hK' => ?_
  have hrun := run_make_row (P := P) t e i (.int k 0) ht hi hz hs rfl kl kc n (by rw [hb]; exact Nat.le_trans (Nat.mul_le_mul hby hn) (by omega)) (by omega) w
  unfold Oper.wpIn
  refine ⟨?_, ?_⟩
  · simp [Oper.about, hop]
  · rw [Oper.semAt_plain F _ _ (by rw [hop]; intro c hc'; cases hc')]
    simp [execOp, hop, hl, hc, hrun, Result.andThen]
    refine hK' _ _ (hK _ ?_ (World.grownBy_alloc w _ none) (Lib.hid (by simp)))
    rw [made_zeros]
    exact Row.new w e (fun z hz => by rw [List.eq_of_mem_replicate hz]; cases k <;> decide)
theorem paddings_any (A : Option Addr) (m c : Nat) (w : World) :
    Calls Tryd.prog 38 #[.slice A m c] w fun e w' => e = .returned (.func (.func 52) #[] #[.pointer (some ⟨w.heap.size, 0, none⟩)]) ∧ w' = w.alloc (.cells #[.slice A m c] 82) := by
  go_enter Tryd.func38, Tryd.ntmps38
  go_wp2
  go_ret
  exact ⟨rfl, rfl⟩
def ValsA (w : World) (S : Nat → Prop) (A : Option Addr) (n : Nat) (vs : List Value) : Prop :=
  vs.length = n ∧ (0 < n → ∃ b off, A = some ⟨b, off, none⟩ ∧ ¬ S b ∧ ∀ i, i < n → w.cell? ⟨b, off + i, none⟩ = some (vs.getD i undef))
theorem ValsA.only {S : Nat → Prop} {w w' : World} {A : Option Addr} {n : Nat} {vs : List Value} (h : ValsA w S A n vs) (ho : Only S w w') : ValsA w' S A n vs :=
  ⟨h.1, fun hn => by
    obtain ⟨b, off, e, hb, hc⟩ := h.2 hn
    exact ⟨b, off, e, hb, fun i hi => ho.cell (p := ⟨b, off + i, none⟩) hb (hc i hi)⟩⟩
theorem ValsA.below {S : Nat → Prop} {w w' : World} {A : Option Addr} {n : Nat} {vs : List Value} (h : ValsA w S A n vs) (hb : Below w.heap.size w w') : ValsA w' S A n vs :=
  ⟨h.1, fun hn => by
    obtain ⟨b, off, e, hS, hc⟩ := h.2 hn
    exact ⟨b, off, e, hS, fun i hi => (hb.cell (p := ⟨b, off + i, none⟩) (World.block_lt_of_cell? w _ (hc i hi))).trans (hc i hi)⟩⟩
def Gives (S : Nat → Prop) (x : List Int) (B0 : Nat) (W : World) (args : Array Value) : Prop :=
  ∃ A n c g, args = #[.slice A n c, .slice (some ⟨g, 0, none⟩) (padN n) (padN n)] ∧ n ≤ c ∧ c ≤ maxLen ∧ IntsN W .u8 S A n x ∧ B0 ≤ g ∧ Row W g 5 .u8 (List.replicate (padN n) 0)
theorem padN_int (n : Nat) : ((16 : Int) - (n : Int) % 16) % 16 = (padN n : Int) := by unfold padN; omega
theorem ints_n {S : Nat → Prop} {w w' : World} {k : IntKind} {A : Option Addr} {n : Nat} {zs : List Int} (h : IntsN w k S A n zs) (hb : w.grownBy w' none) : IntsN w' k S A n zs := h.only (Only.of_grown hb (fun r e => by cases e))
set_option maxRecDepth 100000 in
set_option maxHeartbeats 2000000 in
theorem paddings_give (n bx : Nat) (S : Nat → Prop) (A : Option Addr) (m c : Nat) (vs : List Value) (xss : List (List Int)) (w : World) (hbx : w.cell? ⟨bx, 0, none⟩ = some (.slice A m c)) (hbS : ¬ S bx) (h : ValsA w S A m vs) (hl : xss.length = m)
    (ht : ∀ i, i < m → ∃ A n c, vs.getD i undef = .slice A n c ∧ n ≤ c ∧ c ≤ maxLen ∧ IntsN w .u8 S A n (xss.getD i [])) (hm : m ≤ 1073741824) :
    SeqGive Fence.wide n Tryd.prog 52 #[.pointer (some ⟨bx, 0, none⟩)] (Gives S) (Only S) xss w := by
  intro l J W hW hJ hY h0
  have kbx := (hW.cell (p := ⟨bx, 0, none⟩) (World.block_lt_of_cell? w _ hbx)).trans hbx
  have kv := h.below hW
  have kt : ∀ i, i < m → ∃ A n c, vs.getD i undef = .slice A n c ∧ n ≤ c ∧ c ≤ maxLen ∧ IntsN W .u8 S A n (xss.getD i []) := fun i hi => by
    obtain ⟨A', n', c', h1, h2, h3, h4⟩ := ht i hi
    exact ⟨A', n', c', h1, h2, h3, h4.only (Only.of_below hW)⟩
  have HL := Lib.hid hl
  have hmi : (m : Int) ≤ 1073741824 := by omega
  clear hbx h ht hl
  refine callsIn_of_wp Tryd.func52 rfl trivial ?_ rfl
  simp only [Tryd.ntmps52, List.size_toArray, List.length_cons, List.length_nil, Nat.reduceAdd, Nat.reduceSub, Array.replicate_succ, Array.replicate_zero, List.push_toArray, List.append_toArray, List.nil_append, List.cons_append]
  gi_wp2_with fail
  gi_loopw [8] (fun i wr => ∃ k : Nat, k ≤ m ∧ i = .int .i64 k ∧ J (xss.take k) wr ∧ Only S W wr) (fun i _ => m - (intOf i).toNat)
  case atStart => exact ⟨0, by omega, rfl, by simpa using h0, Only.refl _ _⟩
  case round =>
    obtain ⟨k, hk, rfl, Jk, ok⟩ := hrel
    by_cases hlt : k < m
    · obtain ⟨b, off, rfl, hbS', hc⟩ := (kv.only ok).2 (by omega)
      obtain ⟨A1, n1, c1, hv, hn1, hm1, hi1⟩ := kt k hlt
      have hck := hc k hlt
      rw [hv] at hck
      have i1 := hi1.only ok
      have HP := Lib.hid (show xss.take k ++ [xss.getD k []] = xss.take (k + 1) by rw [List.take_add_one, List.getD_eq_getElem?_getD, List.getElem?_eq_getElem (by rw [HL.out]; exact hlt)]; rfl)
      have hpre : xss.take k ++ [xss.getD k []] <+: xss := by rw [HP.out]; exact List.take_prefix _ _
      have hlt' : (k : Int) < (m : Int) := by omega
      have hk0 : (0 : Int) ≤ (k : Int) := by omega
      have hpn := padN_int n1
      have hp16 := padN_lt n1
      have hm63 : n1 ≤ 9223372036854775807 := by unfold maxLen at hm1; omega
      have W1 : IntKind.i64.wrap ((16 : Int) - (n1 : Int) % 16) = (16 : Int) - (n1 : Int) % 16 := by rw [IntKind.wrap_i64]; omega
      have W2 : Int.tmod (n1 : Int) 16 = (n1 : Int) % 16 := Int.tmod_eq_emod_of_nonneg (by omega)
      have W3 : Int.tmod ((16 : Int) - (n1 : Int) % 16) 16 = (padN n1 : Int) := by rw [Int.tmod_eq_emod_of_nonneg (by omega)]; exact hpn
      generalize xss.getD k [] = x at i1 hi1 HP hpre
      clear hc hv hi1
      gi_wp2_with (first
        | (refine wpListIn_make_Row wr rfl _ _ 27 rfl 5 .u8 1 Tryd.underlying27 info_u8 .i64 .i64 (padN n1) rfl rfl (by omega) (by omega) ?_; intro w2 r2 g2 z2; obtain ⟨fn, tmps, assign, body, hy, hR⟩ := hY (xss.take k) x #[.slice A1 n1 c1, .slice (some ⟨wr.heap.size, 0, none⟩) (padN n1) (padN n1)] wr w2 Jk g2 ⟨A1, n1, c1, wr.heap.size, rfl, hn1, hm1, ints_n i1 g2, Nat.le_refl _, r2⟩ hpre))
      refine ⟨fun h => (by cases h), ?_⟩
      refine hR.mono ?_
      rintro e W4 ⟨rfl, J4, o4⟩
      rw [HP.out] at J4
      have o5 := (ok.trans (Only.of_grown g2 (fun r e => by cases e))).trans o4
      clear hR hy r2 g2 z2 i1 hpre W1 W2 W3 hpn o4 ok hck
      gi_wp2_with fail
      go_roundw
      case rel => exact ⟨k + 1, by omega, by go_num, J4, o5⟩
      case measure => simp [intOf]; omega
    · have hkm : k = m := by omega
      subst hkm
      rw [List.take_of_length_le (by rw [HL.out]; omega)] at Jk
      gi_wp2_with fail
      go_end0
      exact ⟨⟨_, rfl⟩, Jk⟩
end Go.Proofs.YtjelacblnjbfgaaDoor.Ae
namespace Go.Proofs.YtjelacblnjbfgaaDoor.Ae
open Go.RowKit Go.Shelf Go.Proofs.YtjelacblnjbfgaaDoor Mem Help Go.Proofs.YtjelacblnjbfgaaDoor.Sum Po Go.Proofs.YtjelacblnjbfgaaDoor.Range Sha
attribute [local irreducible] wpList wpListIn
theorem info_bytes : (Tryd.prog.info? 27).map (fun i => (i.zero, i.size, i.bytes)) = some (some (.slice none 0 0), 1, 24) := by kernel_rfl
theorem zero_list : (Tryd.prog.info? 82).bind (·.zero) = some (.slice none 0 0) := by kernel_rfl
theorem size_list : (Tryd.prog.info? 82).map (·.size) = some 1 := by kernel_rfl
def blk (A : Option Addr) : Option Nat := A.map (·.block)
theorem blk_own (A : Option Addr) (n c : Nat) : (Value.slice A n c).ownBlock = blk A := by cases A <;> rfl
def Tied (lb : Nat) (A : Option Addr) (b : Nat) : Prop := b = lb ∨ blk A = some b
theorem _root_.Go.Proofs.YtjelacblnjbfgaaDoor.Mem.IntsN.shift {w : World} {k : IntKind} {S S' : Nat → Prop} {A : Option Addr} {n : Nat} {zs : List Int} (h : IntsN w k S A n zs) (hS : ∀ b, ¬ S b → b < w.heap.size → ¬ S' b) : IntsN w k S' A n zs :=
  ⟨h.1, h.2.1, fun hn => by
    obtain ⟨b, off, e, hb, hc⟩ := h.2.2 hn
    exact ⟨b, off, e, hS b hb (World.block_lt_of_cell? w _ (hc 0 hn)), hc⟩⟩
def TextsN (w : World) (S : Nat → Prop) (vs : List Value) (xss : List (List Int)) : Prop :=
  vs.length = xss.length ∧ ∀ i, i < vs.length → ∃ A n c, vs.getD i undef = .slice A n c ∧ n ≤ c ∧ c ≤ maxLen ∧ IntsN w .u8 S A n (xss.getD i [])
section
variable {w w' : World} {S S' : Nat → Prop} {vs us : List Value} {xss yss : List (List Int)}
theorem TextsN.only (h : TextsN w S vs xss) (ho : Only S w w') : TextsN w' S vs xss := ⟨h.1, fun i hi => by obtain ⟨A, n, c, e, h1, h2, hh⟩ := h.2 i hi; exact ⟨A, n, c, e, h1, h2, hh.only ho⟩⟩
theorem TextsN.shift (h : TextsN w S vs xss) (hS : ∀ b, ¬ S b → b < w.heap.size → ¬ S' b) : TextsN w S' vs xss := ⟨h.1, fun i hi => by obtain ⟨A, n, c, e, h1, h2, hh⟩ := h.2 i hi; exact ⟨A, n, c, e, h1, h2, hh.shift hS⟩⟩
theorem TextsN.nil (w : World) (S : Nat → Prop) : TextsN w S [] [] := ⟨rfl, fun i hi => by simp at hi⟩
theorem TextsN.texts (h : TextsN w S vs xss) : Texts w w.heap.size vs xss := ⟨h.1, fun i hi => by obtain ⟨A, n, c, e, h1, h2, hh⟩ := h.2 i hi; exact ⟨A, n, c, e, h1, h2, hh.ints⟩⟩
theorem TextsN.append (h : TextsN w S vs xss) (k : TextsN w S us yss) : TextsN w S (vs ++ us) (xss ++ yss) := by
  refine ⟨by simp [h.1, k.1], fun i hi => ?_⟩
  by_cases q : i < vs.length
  · have := h.2 i q
    simp only [List.getD_eq_getElem?_getD] at this ⊢
    rw [List.getElem?_append_left q, List.getElem?_append_left (by rw [← h.1]; exact q)]
    exact this
  · rw [List.length_append] at hi
    have := k.2 (i - vs.length) (by omega)
    simp only [List.getD_eq_getElem?_getD] at this ⊢
    rw [List.getElem?_append_right (by omega), List.getElem?_append_right (by rw [← h.1]; omega), ← h.1]
    exact this
theorem TextsN.one {A : Option Addr} {n c : Nat} {xs : List Int} (h : IntsN w .u8 S A n xs) (h1 : n ≤ c) (h2 : c ≤ maxLen) : TextsN w S [.slice A n c] [xs] :=
  ⟨rfl, fun i hi => by
    have : i = 0 := by simpa using hi
    subst this
    exact ⟨A, n, c, rfl, h1, h2, h⟩⟩
end
structure Lst (w : World) (Z lb gk gn gr : Nat) (key nonce : List Int) (v0 : Value) (xss : List (List Int)) (A : Option Addr) (n c : Nat) (W : World) : Prop where
  ord : w.heap.size ≤ gk ∧ w.heap.size ≤ gn ∧ w.heap.size ≤ gr ∧ gk < lb ∧ gn < lb ∧ gr < lb ∧ lb < Z
  low : Z ≤ W.heap.size
  cell : W.heap[lb]? = some (.cells #[v0] 82 (0, 0))
  own : ∃ vs, W.ownsRow Z 27 1 (.slice A n c) n vs ∧ TextsN W (Tied lb A) vs xss
  rk : Row W gk 22 .u8 key
  rn : Row W gn 41 .u8 nonce
  rr : Row W gr 55 .u8 (List.replicate 16 0)
  below : Below w.heap.size w W
section
variable {w W W' : World} {Z lb gk gn gr : Nat} {key nonce : List Int} {v0 : Value} {xss yss : List (List Int)} {A : Option Addr} {n c : Nat}
theorem Lst.lt (h : Lst w Z lb gk gn gr key nonce v0 xss A n c W) : ∀ b, blk A = some b → Z ≤ b ∧ b < W.heap.size := fun b e => by
  obtain ⟨vs, ho, _⟩ := h.own
  exact ho.lt b (by rw [blk_own]; exact e)
theorem Lst.cells (h : Lst w Z lb gk gn gr key nonce v0 xss A n c W) : ∀ (b : Nat) (o : Obj), blk A = some b → W.heap[b]? = some o → o.isCells = true := fun b o e ho => by
  obtain ⟨vs, h1, _⟩ := h.own
  rcases h1.2 with ⟨e1, _⟩ | ⟨g, cap, cur, e1, _, hg, _⟩
  · cases e1; cases e
  · cases e1; cases e; rw [hg] at ho; cases ho; rfl
theorem Lst.len (h : Lst w Z lb gk gn gr key nonce v0 xss A n c W) : xss.length = n := by
  obtain ⟨vs, h1, h2⟩ := h.own
  rw [← h2.1]
  simpa using h1.1
theorem Lst.keep (h : Lst w Z lb gk gn gr key nonce v0 xss A n c W) {row : Option Nat} (hg : W.grownBy W' row) (hr : ∀ r, row = some r → Z ≤ r ∧ ∃ o : Obj, W.heap[r]? = some o ∧ o.isCells = false) : Lst w Z lb gk gn gr key nonce v0 xss A n c W' := by
  obtain ⟨o1, o2, o3, o4, o5, o6, o7⟩ := h.ord
  have hne : ∀ b, b < Z → some b ≠ row := fun b hb e => by have := (hr b e.symm).1; omega
  refine ⟨h.ord, Nat.le_trans h.low hg.size, (hg.block lb (Array.getElem?_eq_some_iff.1 h.cell).1 (hne _ o7)).trans h.cell, ?_, h.rk.grown hg (hne _ (by omega)), h.rn.grown hg (hne _ (by omega)), h.rr.grown hg (hne _ (by omega)),
    h.below.grown hg h.below.size (fun r e => by have := (hr r e).1; omega)⟩
  obtain ⟨vs, h1, h2⟩ := h.own
  refine ⟨vs, h1.kept hg ?_, h2.only ⟨hg.size, fun i o _ ho hc => (hg.block i (Array.getElem?_eq_some_iff.1 ho).1 (fun e => ?_)).trans ho⟩⟩
  · rw [blk_own]
    cases hb : blk A with
    | none => exact .inl rfl
    | some b =>
      refine .inr fun e => ?_
      obtain ⟨_, o, ho, hc⟩ := hr b e.symm
      rw [h.cells b o hb ho] at hc
      cases hc
  · obtain ⟨_, o', ho', hc'⟩ := hr i e.symm
    rw [ho] at ho'
    cases ho'
    rw [hc] at hc'
    cases hc'
theorem Lst.grow (h : Lst w Z lb gk gn gr key nonce v0 xss A n c W) (hg : W.grownBy W' none) : Lst w Z lb gk gn gr key nonce v0 xss A n c W' := h.keep hg (fun r e => by cases e)
theorem Lst.append (h : Lst w Z lb gk gn gr key nonce v0 xss A n c W) (hn : n ≤ 1000) (ty : TypeId) (B : Nat) (A2 : Option Addr) (m c2 : Nat) (us : List Value) (hv : Vals W B A2 m us) (hm : m ≤ 1000) (ht : TextsN W (Tied lb A) us yss) :
    ∃ A' c' W', (Builtin.append_ #[82, 82] ty #[.slice A n c, .slice A2 m c2]).run Tryd.prog W = .ok (.slice A' (n + m) c') W' ∧ Lst w Z lb gk gn gr key nonce v0 (xss ++ yss) A' (n + m) c' W' ∧ W.grownBy W' (blk A) := by
  obtain ⟨o1, o2, o3, o4, o5, o6, o7⟩ := h.ord
  obtain ⟨vs, h1, h2⟩ := h.own
  obtain ⟨v', W', hrun, q2, q3, q4⟩ := run_append_vals (P := Tryd.prog) W Z 82 ty 27 (.slice none 0 0) 24 Tryd.underlying82 info_bytes rfl (.slice A n c) n vs h1 B A2 m c2 us hv (by omega) (by omega) h.low
  obtain ⟨A', c', rfl, q5, q6⟩ := Held.row_form q2
  rw [blk_own] at q3
  rw [blk_own, blk_own] at q4
  have hne : ∀ b, b < Z → some b ≠ blk A := fun b hb e => by have := (h.lt b e.symm).1; omega
  refine ⟨A', c', W', hrun, ⟨h.ord, Nat.le_trans h.low q3.size, (q3.block lb (Array.getElem?_eq_some_iff.1 h.cell).1 (hne _ o7)).trans h.cell, ⟨_, q2, ?_⟩, h.rk.grown q3 (hne _ (by omega)), h.rn.grown q3 (hne _ (by omega)), h.rr.grown q3 (hne _ (by omega)),
    h.below.grown q3 h.below.size (fun r e => by have := (h.lt r e).1; omega)⟩, q3⟩
  refine ((h2.append ht).shift (S' := fun b => b = lb ∨ blk A = some b ∨ blk A' = some b) (fun b hb hlt e => ?_)).only (Only.of_grown q3 (fun r e => .inr (.inl e))) |>.shift (fun b hb _ e => hb ?_)
  · rcases e with e | e | e
    · exact hb (.inl e)
    · exact hb (.inr e)
    · rcases q4 with q | q
      · rw [q] at e; exact hb (.inr e)
      · rw [q] at e
        have e : some W.heap.size = some b := e
        injection e with e
        omega
  · rcases e with e | e
    · exact .inl e
    · exact .inr (.inr e)
theorem Lst.store (h : Lst w Z lb gk gn gr key nonce v0 xss A n c W) {v1 : Value} (hc : W'.heap[lb]? = some (.cells #[v1] 82 (0, 0))) (hg : W.grownBy W' (some lb)) : Lst w Z lb gk gn gr key nonce v1 xss A n c W' := by
  obtain ⟨o1, o2, o3, o4, o5, o6, o7⟩ := h.ord
  refine ⟨h.ord, Nat.le_trans h.low hg.size, hc, ?_, h.rk.grown hg (by intro e; injection e with e; omega), h.rn.grown hg (by intro e; injection e with e; omega), h.rr.grown hg (by intro e; injection e with e; omega),
    h.below.grown hg h.below.size (fun r e => by cases e; omega)⟩
  obtain ⟨vs, h1, h2⟩ := h.own
  refine ⟨vs, h1.kept hg ?_, h2.only (Only.of_grown hg (fun r e => by cases e; exact .inl rfl))⟩
  rw [blk_own]
  cases hb : blk A with
  | none => exact .inl rfl
  | some b => exact .inr fun e => by have := (h.lt b hb).1; injection e with e; omega
end
theorem wpListIn_append_list {F : Fence} {N : Nat} {w W : World} {Z lb gk gn gr : Nat} {key nonce : List Int} {v0 : Value} {xss yss : List (List Int)} {A : Option Addr} {n c : Nat} (h : Lst w Z lb gk gn gr key nonce v0 xss A n c W) {ops : Array Oper} {rest : List Oper} {o : Oper} {a : Act} {Q : Exit → Act → World → Prop} (hg : o.guard = none)
    (s x : Operand) (ho : o.op = .call { callee := .builtin .append, args := #[s, x], argTypes := #[82, 82] }) (hs : a.eval s = .slice A n c) (hn : n ≤ 1000) (B : Nat) (A2 : Option Addr) (m c2 : Nat) (us : List Value) (hx : a.eval x = .slice A2 m c2) (hv : Vals W B A2 m us) (hm : m ≤ 1000) (ht : TextsN W (Tied lb A) us yss)
    (hK : ∀ A' c' W', Lst w Z lb gk gn gr key nonce v0 (xss ++ yss) A' (n + m) c' W' → W.grownBy W' (blk A) → wpListIn F N Tryd.prog ops Q rest (a.put o.dst (.slice A' (n + m) c')) W') : wpListIn F N Tryd.prog ops Q (o :: rest) a W := by
  obtain ⟨A', c', W', hrun, hL, hG⟩ := h.append hn o.type B A2 m c2 us hv hm ht
  refine wpListIn_plain hg fun K hK' => ?_
  unfold Oper.wpIn
  refine ⟨?_, ?_⟩
  · simp [Oper.about, ho, resolve, Target.leads, Sem.run_pure]
  · rw [Oper.semAt_plain F _ _ (by rw [ho]; intro c hc'; cases hc')]
    simp [execOp, ho, resolve, invoke, builtin, hs, hx, hrun, Result.andThen]
    exact hK' _ _ (hK _ _ _ hL hG)
theorem op_append_list {w W : World} {Z lb gk gn gr : Nat} {key nonce : List Int} {v0 : Value} {xss yss : List (List Int)} {A : Option Addr} {n c : Nat} (h : Lst w Z lb gk gn gr key nonce v0 xss A n c W) {ops : Array Oper} {Q : Exit → Act → World → Prop} (i : Nat) (d : Option Tmp) {o : Oper} {a : Act} {K : Act → World → Prop} {s x : Operand} (hi : ops[i]? = some o) (hd : o.dst = d) (hw : Region.wanted o (yielded ops a.tmps) = true)
    (ho : o.op = .call { callee := .builtin .append, args := #[s, x], argTypes := #[82, 82] }) (hs : a.eval s = .slice A n c) (hn : n ≤ 1000) (B : Nat) (A2 : Option Addr) (m c2 : Nat) (us : List Value) (hx : a.eval x = .slice A2 m c2) (hv : Vals W B A2 m us) (hm : m ≤ 1000) (ht : TextsN W (Tied lb A) us yss)
    (hK : ∀ A' c' W', Lst w Z lb gk gn gr key nonce v0 (xss ++ yss) A' (n + m) c' W' → W.grownBy W' (blk A) → K (a.put d (.slice A' (n + m) c')) W') : wpOp Tryd.prog ops Q i K a W := by
  subst hd
  obtain ⟨A', c', W', hrun, hL, hG⟩ := h.append hn o.type B A2 m c2 us hv hm ht
  refine Held.op_wp i hi hw ?_
  exact Lib.wp_append_run W s x 82 82 ho _ _ hs hx _ W' hrun (hK _ _ _ hL hG)
end Go.Proofs.YtjelacblnjbfgaaDoor.Ae
