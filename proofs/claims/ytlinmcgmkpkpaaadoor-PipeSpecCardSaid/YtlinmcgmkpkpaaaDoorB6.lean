/-
  Package vm's mayBe, by its contract.
  Package vm's Check, by its contract.
  More of lists of structs in memory: made (zeros), copied: no program here.
  slices.Repeat of one record, up to four times, by its contract.
  More steps of a region: a nil check passed, one cell or one struct stored into a block that is known whole, some numbers copied to its head: no program here.
  What a machine of package vm holds, as plain functions: its cells, one operation more, and that its numbers fit: no program here but the kinds.
  What a job is to tell, as plain functions: the records that are not dead, each key's values as one, the keys in order: no program here but the kinds of its lists.
-/
import Derived.Test.YtlinmcgmkpkpaaaDoorB5
import Derived.Test.YtlinmcgmkpkpaaaDoorB3
import Derived.Test.YtlinmcgmkpkpaaaDoorB2
import Derived.OwnWalk
import Derived.Laws.CopyOwn
set_option linter.unusedVariables false
namespace Go.Proofs.YtlinmcgmkpkpaaaDoor.Vm
open Go.RowKit Go.Shelf Go.Proofs.YtlinmcgmkpkpaaaDoor Mem Held Go.Proofs.YtlinmcgmkpkpaaaDoor.Range Rc Rs Sl
attribute [local go_sem] Oper.semAt_some
attribute [local irreducible] wpList wpListIn Calls
theorem results_one {P : Program} {fn : Func} {p : Tmp} {t : TypeId} (h : fn.results = #[.cell p t]) (tmps : Array Value) (w : World) (g : Nat) (v : Value) (hp : tmps.getD p undef = .pointer (some ⟨g, 0, none⟩))
    (ht : plainT P t = true) (hc : w.cell? ⟨g, 0, none⟩ = some v) : (results fn tmps).run P w = .ok v w := by
  have a1 : (asAddr (.pointer (some ⟨g, 0, none⟩))).run P w = .ok ⟨g, 0, none⟩ w := by simp [asAddr]
  have hp2 : tmps[p]?.getD undef = .pointer (some ⟨g, 0, none⟩) := by simpa using hp
  simp only [results, h]
  simp [Sem.run_bind, Result.andThen, hp2, a1, Held.run_loadVar_cell t _ w v ht hc]
theorem mayP_all {l : List O} {k : Int} (hl : l.length ≤ 40) (h : ∀ i, i < l.length → mayO (l.getD i O0) k = true) : mayP l k = true := by
  unfold mayP
  rw [decide_eq_true hl, Bool.true_and]
  refine List.all_eq_true.2 fun x hx => ?_
  obtain ⟨i, hi, rfl⟩ := List.getElem_of_mem hx
  have := h i hi
  rwa [List.getD_eq_getElem?_getD, List.getElem?_eq_getElem hi] at this
set_option maxRecDepth 100000 in
set_option maxHeartbeats 4000000 in
theorem maybe_long (A : Option Addr) (n c : Nat) (k : Int) (w : World) (hn : 40 < n) :
    Calls Tryd.prog 51 #[.slice A n c, .int .i64 k] w fun e w' => e = .returned (.bool false) ∧ Below w.heap.size w w' := by
  have hn' : 40 < (n : Int) := by omega
  go_enter Tryd.func51, Tryd.ntmps51
  go_wp2_with (first
    | (refine Held.wpList_box_cell (w := w) rfl 3 _ rfl (.int .i64 k) rfl rfl ?_; intro w1 q1 g1 z1)
    | (refine wpList_alloc_cell (w := w1) rfl 4 rfl (.bool false) (by kernel_rfl) rfl ?_; intro w2 q2 g2 z2)
    | (refine wpList_store_box (w := w2) rfl 4 _ _ rfl w1.heap.size rfl 4 _ (.bool false) rfl q2 (by kernel_rfl) rfl rfl ?_; intro w3 q3 g3))
  have b2 : Below w.heap.size w w2 := ((Below.refl _ w).grown g1 (Nat.le_refl _) (by simp)).grown g2 g1.size (by simp)
  exact bodyPost_ret (results_one rfl _ _ w1.heap.size _ rfl (by kernel_rfl) (cell_of_one q3)) rfl ⟨rfl, b2.grown g3 b2.size (fun r e => by cases e; exact g1.size)⟩
def MbI (w : World) (r3 r4 : Nat) (l : List O) (kk : Int) (k : Nat) (W : World) : Prop :=
  k ≤ l.length ∧ W.heap[r3]? = some (.cells #[.int .i64 kk] 3 (0, 0)) ∧ W.heap[r4]? = some (.cells #[.bool false] 4 (0, 0)) ∧ (∀ i, i < k → mayO (l.getD i O0) kk = true) ∧ Below w.heap.size w W
def MbX (w : World) (r4 : Nat) (l : List O) (kk : Int) (c : Code) (k : Nat) (W : World) : Prop :=
  c = .ret ∧ W.heap[r4]? = some (.cells #[.bool false] 4 (0, 0)) ∧ mayP l kk = false ∧ Below w.heap.size w W
theorem MbI.far (w : World) (r3 r4 : Nat) (l : List O) (kk : Int) {B : Nat} (hw : w.heap.size < B) (h3 : r3 < B) (h4 : r4 < B) : Far B (MbI w r3 r4 l kk) := by
  intro k W W' row ⟨h0, h1, h2, ha, hb⟩ hgr hr
  have hne : ∀ i, i < B → some i ≠ row := fun i hi e => by have := hr i e.symm; omega
  exact ⟨h0, Held.keep_cells h1 hgr (hne _ h3), Held.keep_cells h2 hgr (hne _ h4), ha, hb.grown hgr hb.size (fun r e => by have := hr r e; omega)⟩
theorem MbX.far (w : World) (r4 : Nat) (l : List O) (kk : Int) (c : Code) {B : Nat} (hw : w.heap.size < B) (h4 : r4 < B) : Far B (MbX w r4 l kk c) := by
  intro k W W' row ⟨h0, h2, ha, hb⟩ hgr hr
  have hne : ∀ i, i < B → some i ≠ row := fun i hi e => by have := hr i e.symm; omega
  exact ⟨h0, Held.keep_cells h2 hgr (hne _ h4), ha, hb.grown hgr hb.size (fun r e => by have := hr r e; omega)⟩
set_option maxRecDepth 100000 in
set_option maxHeartbeats 4000000 in
theorem maybe_ok (B : Nat) (A : Option Addr) (n c : Nat) (xs : List O) (k : Int) (w : World) (h : Lst kO w B A n xs) (hB : B ≤ w.heap.size) (hn : n ≤ 40) :
    Calls Tryd.prog 51 #[.slice A n c, .int .i64 k] w fun e w' => e = .returned (.bool (mayP xs k)) ∧ Below w.heap.size w w' := by
  have hn' : (n : Int) ≤ 40 := by omega
  have hit := fun M bx w6 hx hI hB6 => ops_stop M bx (fun _ => False) B A n c xs w6 hn hx (fun e => e) hI hB6 (fun _ _ e => e)
  have HW := Lib.hid h.2.1
  have HLEN := Lib.hid h.1
  obtain ⟨E, hE⟩ : ∃ E, mayP xs k = E := ⟨_, rfl⟩
  rw [hE]
  have HEE := Lib.hid hE
  clear hE
  refine (callsIn_wide (n := 3)).1 ?_
  refine callsIn_of_wp_marks Tryd.func51 rfl trivial ?_ rfl
  simp only [Tryd.ntmps51, List.size_toArray, List.length_cons, List.length_nil, Nat.reduceAdd, Nat.reduceSub, Array.replicate_succ, Array.replicate_zero, List.push_toArray, List.append_toArray, List.nil_append, List.cons_append]
  refine wpIn_wide.2 ?_
  go_wp2_with (first
    | (refine Held.wpList_box_cell (w := w) rfl 3 _ rfl (.int .i64 k) rfl rfl ?_; intro w1 q1 g1 z1)
    | (refine wpList_alloc_cell (w := w1) rfl 4 rfl (.bool false) (by kernel_rfl) rfl ?_; intro w2 q2 g2 z2; have q12 := Held.keep_cells q1 g2 (by simp)))
  have l1 : w.heap.size < w1.heap.size := (Array.getElem?_eq_some_iff.1 q1).1
  have l2 : w1.heap.size < w2.heap.size := (Array.getElem?_eq_some_iff.1 q2).1
  have b2 : Below w.heap.size w w2 := ((Below.refl _ w).grown g1 (Nat.le_refl _) (by simp)).grown g2 g1.size (by simp)
  have k2 : MbI w w.heap.size w1.heap.size xs k 0 w2 := ⟨by omega, q12, q2, fun i hi => absurd hi (by omega), b2⟩
  clear g1 g2 z1 z2 q1 q12 q2 b2
  refine (ops_any A n c w2).mono ?_
  rintro e w3 ⟨bx, rfl, qx, hbx, b3⟩
  have k3 : MbI w w.heap.size w1.heap.size xs k 0 w3 := MbI.far w _ _ xs k (B := w2.heap.size) (by omega) (by omega) (by omega) 0 w2 w3 none k2 (grown_of_below b3 none) (fun r e => by cases e)
  have l3 : w1.heap.size < w3.heap.size := Nat.lt_of_lt_of_le l2 b3.size
  have c3 : Below w.heap.size w w3 := k3.2.2.2.2
  have hit := fun M => hit M bx w3 (qx.cell rfl) (h.below (c3.mono hB)) (Nat.le_trans hB c3.size)
  clear k2 b3 qx hbx c3 h
  go_wp2_with fail
  refine (wpIn_wide (n := 3)).1 ?_
  refine wpIn_rangeFunc_stop rfl (by omega) (gf := 81) (lb := #[.pointer (some ⟨bx, 0, none⟩)]) rfl trivial (enters_of Tryd.func81 (by kernel_rfl) rfl)
    (hit _) (fun h k => h.trans k) (fun W l o o' hl ho hc _ => Only.put W l o o' ho hc) (Below.refl _ _) (fun _ => rfl)
    (xs.length + 1) (MbI w w.heap.size w1.heap.size xs k) (MbX w w1.heap.size xs k) (MbI.far w _ _ xs k (by omega) (by omega) (by omega)) (fun c => MbX.far w _ xs k c (by omega) (by omega)) (fun k W h => by have := h.1; omega) k3
    (fun x a' i W => MbI w w.heap.size w1.heap.size xs k i W ∧ ∃ p, w1.heap.size < p ∧ Blk W p 58 #[.int .i64 x.code, .int .i64 x.d, .int .i64 x.a, .int .i64 x.b, .int .i64 x.c, .int .i64 x.n] ∧ a' = { tmps := #[.slice A n c, .int .i64 k, undef, .pointer (some ⟨w.heap.size, 0, none⟩), .pointer (some ⟨w1.heap.size, 0, none⟩), .pointer (some ⟨p, 0, none⟩), .slice A n c, .int .i64 (n : Int), .bool (decide (40 < (n : Int))), .slice A n c, .func (.func 81) #[] #[.pointer (some ⟨bx, 0, none⟩)], .agg #[.int .i64 x.code, .int .i64 x.d, .int .i64 x.a, .int .i64 x.b, .int .i64 x.c, .int .i64 x.n], undef, undef, undef, undef], defers := [] }) ?ib ?assign ?body ?done ?stop
  case ib =>
    rintro x a' i W W' row ⟨hi, p, hp, hr, h3⟩ hgr hrow
    exact ⟨MbI.far w _ _ xs k (B := w3.heap.size) (by omega) (by omega) (by omega) i W W' row hi hgr (fun r e => (hrow r e).1), p, hp, blk_own hr hgr hrow, h3⟩
  case assign =>
    intro l i x W K hi hat hsz hK
    simp only [encO, Held.zip_one, List.setIfInBounds_toArray, List.set_cons_zero, List.set_cons_succ]
    gi_wp2_with (first
      | (refine Held.wpListIn_one (r := some l) rfl (by intro c e; cases e) ?_; refine wpList_alloc_blk (w := W) rfl 58 rfl _ zero_op ?_; intro v2 q2 g2 z2; refine wpList_nil ⟨rfl, ?_⟩)
      | (refine Held.wpListIn_one (r := some l) rfl (by intro c e; cases e) ?_; refine wpList_store_blk (w := v2) rfl 58 _ _ rfl W.heap.size 6 rfl 58 _ #[.int .i64 x.code, .int .i64 x.d, .int .i64 x.a, .int .i64 x.b, .int .i64 x.c, .int .i64 x.n] rfl q2 size_op rfl rfl (by kernel_rfl) ?_; intro v3 q3 g3 z3; refine wpList_nil ⟨rfl, ?_⟩))
    have b3 : Below W.heap.size W v3 := ((Below.refl _ W).grown g2 (Nat.le_refl _) (by simp)).grown g3 g2.size (fun r e => by cases e; exact Nat.le_refl _)
    exact hK _ _ ((Held.others_of_new g2).trans (Held.others_of_grown q2 g3)) (Only.of_below b3) ⟨MbI.far w _ _ xs k (B := W.heap.size) (by omega) (by omega) (by omega) i _ _ none hi (grown_of_below b3 none) (fun r e => by cases e), W.heap.size, by omega, q3, rfl⟩
  case body =>
    rintro l i x a' W hl hrec ⟨⟨i0, i1, i2, i5, i6⟩, p, hp, hr, rfl⟩ hat hsz
    obtain ⟨hks, hx⟩ := atO_some hat
    have hxw : x.wf := by
      rw [hx, List.getD_eq_getElem?_getD, List.getElem?_eq_getElem hks]
      exact HW.out _ (List.getElem_mem _)
    have HALL := Lib.hid (fun (hm : mayO x k = true) => (show ∀ j, j < i + 1 → mayO (xs.getD j O0) k = true from fun j hj => by
      by_cases hij : j < i
      · exact i5 j hij
      · rw [show j = i by omega, ← hx]; exact hm))
    have HBAD := Lib.hid (fun (hm : mayO x k = false) => bad_all hks (by rw [← hx]; exact hm))
    have c3 := cell_of_one i1
    clear hat hrec hit i5 hx
    gi_wp2_with (refine Held.wpListIn_one (r := some l) rfl (by intro c e; cases e) ?_; refine wpList_load_blk (w := W) rfl 58 _ rfl p 6 rfl 58 _ hr _ Tryd.underlying58 rfl size_op rfl ?_; refine wpList_nil ⟨rfl, ?_⟩)
    refine ⟨trivial, ?_⟩
    refine (CallsIn.inRound l (callsIn_wide.2 (stand_any x k W))).mono ?_
    rintro e v1 ⟨rfl, b1⟩
    have j1 := (b1.block _ (Array.getElem?_eq_some_iff.1 i1).1).trans i1
    have j2 := (b1.block _ (Array.getElem?_eq_some_iff.1 i2).1).trans i2
    have j6 := i6.trans (b1.mono i6.size)
    cases hm : mayO x k
    · have HF := HBAD.out hm
      gi_wp2_with (refine Held.wpListIn_store_box (w := v1) rfl 4 _ _ rfl w1.heap.size rfl 4 _ (.bool false) rfl j2 (by kernel_rfl) rfl rfl ?_; intro v2 q2 g2)
      exact ⟨(Held.others_of_new (grown_of_below b1 none)).trans (Held.others_of_grown j2 g2), rfl, q2, HF, j6.grown g2 j6.size (fun r e => by cases e; omega)⟩
    · have HT := Lib.hid (HALL.out hm)
      gi_wp2_with fail
      exact ⟨Held.others_of_new (grown_of_below b1 none), Only.of_below b1, by omega, j1, j2, HT.out, j6⟩
  case done =>
    rintro D i W hD hat ⟨i0, i1, i2, i5, i6⟩ hDl
    obtain rfl : i = xs.length := by have := atO_none hat; omega
    have HA := Lib.hid (mayP_all (k := k) (by rw [HLEN.out]; exact hn) i5)
    have hDW : D < W.heap.size := (Array.getElem?_eq_some_iff.1 hDl).1
    clear i5 hat hit
    go_wp2_with (refine wpList_store_box (w := W) rfl 4 _ _ rfl w1.heap.size rfl 4 _ (.bool true) rfl i2 (by kernel_rfl) rfl rfl ?_; intro v2 q2 g2)
    have d2 := (g2.block D hDW (by simp; omega)).trans hDl
    have b2 : Below w.heap.size w v2 := i6.grown g2 i6.size (fun r e => by cases e; omega)
    refine ⟨by simp, .inl ⟨_, _, rfl, run_takeDeferred d2, ?_⟩⟩
    exact ⟨_, results_one rfl _ _ w1.heap.size _ rfl (by kernel_rfl) (cell_of_one ((World.putObj_heap_other (by omega)).trans q2)), by rw [← HEE.out, HA.out], b2.grown (grownBy_putObj' _ D _) b2.size (fun r e => by cases e; omega)⟩
  case stop =>
    rintro D c i W hD ⟨rfl, i2, ha, i6⟩ hDl
    clear hit
    gi_wp2_with fail
    refine ⟨by simp, .inl ⟨_, _, rfl, run_takeDeferred hDl, ?_⟩⟩
    exact ⟨_, results_one rfl _ _ w1.heap.size _ rfl (by kernel_rfl) (cell_of_one ((World.putObj_heap_other (by omega)).trans i2)), by rw [← HEE.out, ha], i6.grown (grownBy_putObj' _ D _) i6.size (fun r e => by cases e; omega)⟩
theorem maybe_any (B : Nat) (A : Option Addr) (n c : Nat) (xs : List O) (k : Int) (w : World) (h : Lst kO w B A n xs) (hB : B ≤ w.heap.size) :
    Calls Tryd.prog 51 #[.slice A n c, .int .i64 k] w fun e w' => e = .returned (.bool (mayP xs k)) ∧ Below w.heap.size w w' := by
  by_cases hn : n ≤ 40
  · exact maybe_ok B A n c xs k w h hB hn
  · have e : mayP xs k = false := by
      unfold mayP
      rw [h.1, decide_eq_false hn, Bool.false_and]
    rw [e]
    exact maybe_long A n c k w (by omega)
end Go.Proofs.YtlinmcgmkpkpaaaDoor.Vm
namespace Go.Proofs.YtlinmcgmkpkpaaaDoor.Vm
open Go.RowKit Go.Shelf Go.Proofs.YtlinmcgmkpkpaaaDoor Mem Held Go.Proofs.YtlinmcgmkpkpaaaDoor.Range Rc Rs Sl
attribute [local irreducible] wpList wpListIn Calls
theorem info_prog : (Tryd.prog.info? 26).map (·.size) = some 4 := by kernel_rfl
set_option maxRecDepth 100000 in
set_option maxHeartbeats 4000000 in
theorem check_any (B : Nat) (K : Int) (A1 A2 A3 : Option Addr) (n1 c1 n2 c2 n3 c3 : Nat) (m f fi : List O) (w : World) (h1 : Lst kO w B A1 n1 m) (h2 : Lst kO w B A2 n2 f) (h3 : Lst kO w B A3 n3 fi) (hB : B ≤ w.heap.size) :
    Calls Tryd.prog 42 #[.agg #[.int .i64 K, .slice A1 n1 c1, .slice A2 n2 c2, .slice A3 n3 c3]] w fun e w' => e = .returned (.int .i64 (checkE K m f fi)) ∧ Below w.heap.size w w' := by
  obtain ⟨E, hE⟩ : ∃ E, checkE K m f fi = E := ⟨_, rfl⟩
  rw [hE]
  have HE : Hid ((if (decide (1 ≤ K) && decide (K ≤ 4) && mayP m K && mayP f 0 && mayP fi 0) = true then (0 : Int) else 8) = E) := Lib.hid hE
  clear hE
  go_enter Tryd.func42, Tryd.ntmps42
  by_cases hK1 : K < 1
  · have HF := Lib.hid (show 8 = E by rw [← HE.out, decide_eq_false (by omega : ¬ 1 ≤ K)]; rfl)
    clear HE
    go_wp2_with (first
    | (refine wpList_box_blk (w := w) rfl 26 _ rfl #[.int .i64 K, .slice A1 n1 c1, .slice A2 n2 c2, .slice A3 n3 c3] rfl ?_; intro w1 q1 g1 z1; have b1 : Below w.heap.size w w1 := (Below.refl _ w).grown g1 (Nat.le_refl _) (by simp); have hc0 := q1.cell (i := 0) rfl; clear q1 g1 z1)
    | (refine wpList_run (w := w1) rfl (v := .pointer (some ⟨w.heap.size, 0, none⟩)) (Held.y_field (S := fun _ => True) (k := 0) (s := 0) rfl rfl Tryd.underlying26 rfl (by kernel_rfl) rfl _ trivial) ?_)
    | (refine wpList_run (w := w1) rfl (v := .pointer (some ⟨w.heap.size, 1, none⟩)) (Held.y_field (S := fun _ => True) (k := 1) (s := 0) rfl rfl Tryd.underlying26 rfl (by kernel_rfl) rfl _ trivial) ?_)
    | (refine wpList_run (w := w1) rfl (v := .pointer (some ⟨w.heap.size, 2, none⟩)) (Held.y_field (S := fun _ => True) (k := 2) (s := 0) rfl rfl Tryd.underlying26 rfl (by kernel_rfl) rfl _ trivial) ?_)
    | (refine wpList_run (w := w1) rfl (v := .pointer (some ⟨w.heap.size, 3, none⟩)) (Held.y_field (S := fun _ => True) (k := 3) (s := 0) rfl rfl Tryd.underlying26 rfl (by kernel_rfl) rfl _ trivial) ?_))
    go_ret
    exact ⟨Mem.ret_int HF.out, b1⟩
  by_cases hK4 : 4 < K
  · have HF := Lib.hid (show 8 = E by rw [← HE.out, decide_eq_false (by omega : ¬ K ≤ 4), Bool.and_false]; rfl)
    clear HE
    go_wp2_with (first
    | (refine wpList_box_blk (w := w) rfl 26 _ rfl #[.int .i64 K, .slice A1 n1 c1, .slice A2 n2 c2, .slice A3 n3 c3] rfl ?_; intro w1 q1 g1 z1; have b1 : Below w.heap.size w w1 := (Below.refl _ w).grown g1 (Nat.le_refl _) (by simp); have hc0 := q1.cell (i := 0) rfl; clear q1 g1 z1)
    | (refine wpList_run (w := w1) rfl (v := .pointer (some ⟨w.heap.size, 0, none⟩)) (Held.y_field (S := fun _ => True) (k := 0) (s := 0) rfl rfl Tryd.underlying26 rfl (by kernel_rfl) rfl _ trivial) ?_)
    | (refine wpList_run (w := w1) rfl (v := .pointer (some ⟨w.heap.size, 1, none⟩)) (Held.y_field (S := fun _ => True) (k := 1) (s := 0) rfl rfl Tryd.underlying26 rfl (by kernel_rfl) rfl _ trivial) ?_)
    | (refine wpList_run (w := w1) rfl (v := .pointer (some ⟨w.heap.size, 2, none⟩)) (Held.y_field (S := fun _ => True) (k := 2) (s := 0) rfl rfl Tryd.underlying26 rfl (by kernel_rfl) rfl _ trivial) ?_)
    | (refine wpList_run (w := w1) rfl (v := .pointer (some ⟨w.heap.size, 3, none⟩)) (Held.y_field (S := fun _ => True) (k := 3) (s := 0) rfl rfl Tryd.underlying26 rfl (by kernel_rfl) rfl _ trivial) ?_))
    go_ret
    exact ⟨Mem.ret_int HF.out, b1⟩
  have hK4' : ¬ K > 4 := by omega
  have HE2 := HE.out
  rw [decide_eq_true (by omega : 1 ≤ K), decide_eq_true (by omega : K ≤ 4), Bool.true_and, Bool.true_and] at HE2
  have HE := Lib.hid HE2
  clear HE2
  go_wp2_with (first
    | (refine wpList_box_blk (w := w) rfl 26 _ rfl #[.int .i64 K, .slice A1 n1 c1, .slice A2 n2 c2, .slice A3 n3 c3] rfl ?_; intro w1 q1 g1 z1; have b1 : Below w.heap.size w w1 := (Below.refl _ w).grown g1 (Nat.le_refl _) (by simp); have hc0 := q1.cell (i := 0) rfl; have hc1 := q1.cell (i := 1) rfl; have L1 := h1.below (b1.mono hB); have L2 := h2.below (b1.mono hB); have L3 := h3.below (b1.mono hB); clear h1 h2 h3 g1 z1)
    | (refine wpList_run (w := w1) rfl (v := .pointer (some ⟨w.heap.size, 0, none⟩)) (Held.y_field (S := fun _ => True) (k := 0) (s := 0) rfl rfl Tryd.underlying26 rfl (by kernel_rfl) rfl _ trivial) ?_)
    | (refine wpList_run (w := w1) rfl (v := .pointer (some ⟨w.heap.size, 1, none⟩)) (Held.y_field (S := fun _ => True) (k := 1) (s := 0) rfl rfl Tryd.underlying26 rfl (by kernel_rfl) rfl _ trivial) ?_)
    | (refine wpList_run (w := w1) rfl (v := .pointer (some ⟨w.heap.size, 2, none⟩)) (Held.y_field (S := fun _ => True) (k := 2) (s := 0) rfl rfl Tryd.underlying26 rfl (by kernel_rfl) rfl _ trivial) ?_)
    | (refine wpList_run (w := w1) rfl (v := .pointer (some ⟨w.heap.size, 3, none⟩)) (Held.y_field (S := fun _ => True) (k := 3) (s := 0) rfl rfl Tryd.underlying26 rfl (by kernel_rfl) rfl _ trivial) ?_))
  refine (maybe_any B A1 n1 c1 m K w1 L1 (Nat.le_trans hB b1.size)).mono ?_
  rintro e w2 ⟨rfl, b2⟩
  have q2 := q1.after b2
  have L2 := L2.below (b2.mono (Nat.le_trans hB b1.size))
  have L3 := L3.below (b2.mono (Nat.le_trans hB b1.size))
  have b2 := b1.trans (b2.mono b1.size)
  clear q1 b1 L1 hc0 hc1
  generalize mayP m K = bm at HE ⊢
  cases bm
  · have HF := Lib.hid (show 8 = E from HE.out)
    clear HE
    go_wp2_with fail
    go_ret
    exact ⟨Mem.ret_int HF.out, b2⟩
  have hc2 := q2.cell (i := 2) rfl
  go_wp2_with (first
    | (refine wpList_run (w := w2) rfl (v := .pointer (some ⟨w.heap.size, 0, none⟩)) (Held.y_field (S := fun _ => True) (k := 0) (s := 0) rfl rfl Tryd.underlying26 rfl (by kernel_rfl) rfl _ trivial) ?_)
    | (refine wpList_run (w := w2) rfl (v := .pointer (some ⟨w.heap.size, 1, none⟩)) (Held.y_field (S := fun _ => True) (k := 1) (s := 0) rfl rfl Tryd.underlying26 rfl (by kernel_rfl) rfl _ trivial) ?_)
    | (refine wpList_run (w := w2) rfl (v := .pointer (some ⟨w.heap.size, 2, none⟩)) (Held.y_field (S := fun _ => True) (k := 2) (s := 0) rfl rfl Tryd.underlying26 rfl (by kernel_rfl) rfl _ trivial) ?_)
    | (refine wpList_run (w := w2) rfl (v := .pointer (some ⟨w.heap.size, 3, none⟩)) (Held.y_field (S := fun _ => True) (k := 3) (s := 0) rfl rfl Tryd.underlying26 rfl (by kernel_rfl) rfl _ trivial) ?_))
  refine (maybe_any B A2 n2 c2 f 0 w2 L2 (Nat.le_trans hB b2.size)).mono ?_
  rintro e w3 ⟨rfl, b3⟩
  have q3 := q2.after b3
  have L3 := L3.below (b3.mono (Nat.le_trans hB b2.size))
  have b3 := b2.trans (b3.mono b2.size)
  clear q2 b2 L2 hc2
  generalize mayP f 0 = bf at HE ⊢
  cases bf
  · have HF := Lib.hid (show 8 = E from HE.out)
    clear HE
    go_wp2_with fail
    go_ret
    exact ⟨Mem.ret_int HF.out, b3⟩
  have hc3 := q3.cell (i := 3) rfl
  go_wp2_with (first
    | (refine wpList_run (w := w3) rfl (v := .pointer (some ⟨w.heap.size, 0, none⟩)) (Held.y_field (S := fun _ => True) (k := 0) (s := 0) rfl rfl Tryd.underlying26 rfl (by kernel_rfl) rfl _ trivial) ?_)
    | (refine wpList_run (w := w3) rfl (v := .pointer (some ⟨w.heap.size, 1, none⟩)) (Held.y_field (S := fun _ => True) (k := 1) (s := 0) rfl rfl Tryd.underlying26 rfl (by kernel_rfl) rfl _ trivial) ?_)
    | (refine wpList_run (w := w3) rfl (v := .pointer (some ⟨w.heap.size, 2, none⟩)) (Held.y_field (S := fun _ => True) (k := 2) (s := 0) rfl rfl Tryd.underlying26 rfl (by kernel_rfl) rfl _ trivial) ?_)
    | (refine wpList_run (w := w3) rfl (v := .pointer (some ⟨w.heap.size, 3, none⟩)) (Held.y_field (S := fun _ => True) (k := 3) (s := 0) rfl rfl Tryd.underlying26 rfl (by kernel_rfl) rfl _ trivial) ?_))
  refine (maybe_any B A3 n3 c3 fi 0 w3 L3 (Nat.le_trans hB b3.size)).mono ?_
  rintro e w4 ⟨rfl, b4⟩
  have b4 := b3.trans (b4.mono b3.size)
  clear q3 b3 L3 hc3
  generalize mayP fi 0 = be at HE ⊢
  cases be
  · have HF := Lib.hid (show 8 = E from HE.out)
    clear HE
    go_wp2_with fail
    go_ret
    exact ⟨Mem.ret_int HF.out, b4⟩
  have HF := Lib.hid (show 0 = E from HE.out)
  clear HE
  go_wp2_with fail
  go_ret
  exact ⟨Mem.ret_int HF.out, b4⟩
end Go.Proofs.YtlinmcgmkpkpaaaDoor.Vm
namespace Go.Proofs.YtlinmcgmkpkpaaaDoor.Sl
open Go.RowKit Go.Shelf Mem Held
def laidL {α : Type} (cur : List α) (i : Nat) (xs : List α) : List α := cur.take i ++ (xs ++ cur.drop (i + xs.length))
section
variable {α : Type} {k : St α}
theorem flat_laidL (cur : List α) (i : Nat) (xs : List α) (h : i + xs.length ≤ cur.length) : (flat k cur).take (i * k.s) ++ flat k xs ++ (flat k cur).drop (i * k.s + (flat k xs).length) = flat k (laidL cur i xs) := by
  rw [flat_length, ← Nat.add_mul, flat_take cur i (by omega), flat_drop cur (i + xs.length) (by omega)]
  simp [laidL, flat]
theorem lst_take {w : World} {B n : Nat} {A : Option Addr} {xs : List α} (h : Lst k w B A n xs) (m : Nat) (hm : m ≤ n) : Lst k w B A m (xs.take m) := by
  refine ⟨by rw [List.length_take, h.1]; omega, fun x hx => h.2.1 x (List.mem_of_mem_take hx), fun h0 => ?_⟩
  obtain ⟨b, off, e, hb, hc⟩ := h.2.2 (by omega)
  refine ⟨b, off, e, hb, fun j v hv => hc j v ?_⟩
  have e2 := flat_take (k := k) xs m (by rw [h.1]; exact hm)
  rw [← e2, List.getElem?_take] at hv
  split at hv
  · exact hv
  · cases hv
theorem run_copy_lst {P : Program} (w : World) (dT sT ty elem : TypeId) (B g off i dLen dCap : Nat) (A : Option Addr) (sLen sCap : Nat) (t : TypeId) (cur xs : List α) (m : Nat)
    (hu : P.underlying dT = some (.slice elem)) (hs : (P.info? elem).map (·.size) = some k.s) (hb : Blk w g t (flat k cur).toArray) (hm : Nat.min sLen dLen = m) (h0 : 0 < m) (hx : Lst k w B A sLen xs) (hoff : off = i * k.s) (hfit : i + m ≤ cur.length) :
    ∃ w', (Builtin.copy_ #[dT, sT] ty #[.slice (some ⟨g, off, none⟩) dLen dCap, .slice A sLen sCap]).run P w = .ok (goInt m) w' ∧ Blk w' g t (flat k (laidL cur i (xs.take m))).toArray ∧ w.grownBy w' (some g) := by
  have hms : m ≤ sLen := by rw [← hm]; exact Nat.min_le_left _ _
  have hx' := lst_take hx m hms
  obtain ⟨b, o2, rfl, _, hc⟩ := hx'.2.2 h0
  have hl : (xs.take m).length = m := hx'.1
  subst hoff
  have hsrc : ∀ j v, (flat k (xs.take m))[j]? = some v → w.cell? ((Addr.mk b o2 none).add j) = some v := fun j v hv => by
    rw [show (Addr.mk b o2 none).add j = ⟨b, o2 + j, none⟩ by (unfold Addr.add; split <;> simp_all)]
    exact hc j v hv
  have hfl : (flat k (xs.take m)).length = m * k.s := by rw [flat_length, hl]
  have h1 := run_loadCells_list (P := P) w ⟨b, o2, none⟩ (flat k (xs.take m)) hsrc
  have hfit2 : i * k.s + 0 + (flat k (xs.take m)).length ≤ (flat k cur).toArray.size := by
    rw [hfl, Nat.add_zero, ← Nat.add_mul, List.size_toArray, flat_length]
    exact Nat.mul_le_mul_right _ hfit
  have h2 := run_storeCells_at P g (i * k.s) t (flat k (xs.take m)) 0 (flat k cur).toArray w hb hfit2 (flat_cell _)
  have e := flat_laidL (k := k) cur i (xs.take m) (by rw [hl]; exact hfit)
  rw [Nat.add_zero, e] at h2
  refine ⟨_, ?_, setRow_heap w g _ _ t _ hb, grown_setRow _ _ _⟩
  rw [hfl] at h1
  cases hq : P.info? elem with
  | none => simp [hq] at hs
  | some inf =>
    have hi : inf.size = k.s := by simpa [hq] using hs
    simp [Builtin.copy_, run_underlying hu, Builtin.lenOf, Builtin.firstCells, sizeOf, typeInfo, hq, hi, hm, h1, h2]
end
section
variable {α : Type} {k : St α} {P : Program} {ops : Array Oper} {rest : List Oper} {o : Oper} {a : Act} {w : World} {Q : Exit → Act → World → Prop}
theorem wpList_copy_lst (hgd : o.guard = none) (d s : Operand) (dT sT : TypeId) (ho : o.op = .call { callee := .builtin .copy, args := #[d, s], argTypes := #[dT, sT] }) (elem : TypeId) (hu : P.underlying dT = some (.slice elem)) (hs : (P.info? elem).map (·.size) = some k.s)
    (B g off i dLen dCap : Nat) (A : Option Addr) (sLen sCap : Nat) (hd : a.eval d = .slice (some ⟨g, off, none⟩) dLen dCap) (hs2 : a.eval s = .slice A sLen sCap) (t : TypeId) (cur xs : List α) (m : Nat) (hb : Blk w g t (flat k cur).toArray) (hm : Nat.min sLen dLen = m) (h0 : 0 < m) (hx : Lst k w B A sLen xs) (hoff : off = i * k.s) (hfit : i + m ≤ cur.length)
    (h : ∀ w', Blk w' g t (flat k (laidL cur i (xs.take m))).toArray → w.grownBy w' (some g) → wpList P ops Q rest (a.put o.dst (.int .i64 (m : Int))) w') : wpList P ops Q (o :: rest) a w := by
  refine wpList_plain hgd fun K hK => ?_
  obtain ⟨w', hrun, h1, h2⟩ := run_copy_lst (P := P) w dT sT o.type elem B g off i dLen dCap A sLen sCap t cur xs m hu hs hb hm h0 hx hoff hfit
  unfold Oper.wp
  simp [execOp, ho, resolve, invoke, builtin, hd, hs2, hrun, Result.andThen]
  exact hK _ _ (h w' h1 h2)
theorem op_copy_lst (j : Nat) (dst : Option Tmp) {K : Act → World → Prop} {d s : Operand} (dT sT : TypeId) (hi : ops[j]? = some o) (hdst : o.dst = dst) (hw : Region.wanted o (yielded ops a.tmps) = true)
    (ho : o.op = .call { callee := .builtin .copy, args := #[d, s], argTypes := #[dT, sT] }) (elem : TypeId) (hu : P.underlying dT = some (.slice elem)) (hs : (P.info? elem).map (·.size) = some k.s)
    (B g off i dLen dCap : Nat) (A : Option Addr) (sLen sCap : Nat) (hd : a.eval d = .slice (some ⟨g, off, none⟩) dLen dCap) (hs2 : a.eval s = .slice A sLen sCap) (t : TypeId) (cur xs : List α) (m : Nat) (hb : Blk w g t (flat k cur).toArray) (hm : Nat.min sLen dLen = m) (h0 : 0 < m) (hx : Lst k w B A sLen xs) (hoff : off = i * k.s) (hfit : i + m ≤ cur.length)
    (h : ∀ w', Blk w' g t (flat k (laidL cur i (xs.take m))).toArray → w.grownBy w' (some g) → K (a.put dst (.int .i64 (m : Int))) w') : wpOp P ops Q j K a w := by
  subst hdst
  refine op_wp j hi hw ?_
  obtain ⟨w', hrun, h1, h2⟩ := run_copy_lst (P := P) w dT sT o.type elem B g off i dLen dCap A sLen sCap t cur xs m hu hs hb hm h0 hx hoff hfit
  unfold Oper.wp
  simp [execOp, ho, resolve, invoke, builtin, hd, hs2, hrun, Result.andThen]
  exact h w' h1 h2
theorem made_flat (k : St α) (n : Nat) : (madeCells (k.cells k.d).toArray (n * k.s)).toList = flat k (List.replicate n k.d) := by
  apply List.ext_getElem?
  intro q
  by_cases hq : q < n * k.s
  · have h1 : q / k.s < n := Nat.div_lt_of_lt_mul (by rw [Nat.mul_comm]; exact hq)
    have h2 := Nat.mod_lt q k.pos
    have h3 : q / k.s * k.s + q % k.s = q := by rw [Nat.mul_comm]; exact Nat.div_add_mod q k.s
    have h4 := flat_at (k := k) (List.replicate n k.d) (q / k.s) (q % k.s) h2 (by simpa using h1)
    rw [h3] at h4
    rw [h4]
    have h5 : (k.cells k.d).length = k.s := k.len _
    have h6 : (List.replicate n k.d).getD (q / k.s) k.d = k.d := by
      rw [List.getD_eq_getElem?_getD, List.getElem?_replicate]
      split <;> rfl
    rw [h6]
    simp [madeCells, hq, h5]
    rw [List.getElem?_eq_getElem (by rw [h5]; exact h2)]
    rfl
  · rw [List.getElem?_eq_none (by simp [madeCells]; omega), List.getElem?_eq_none (by rw [flat_length, List.length_replicate]; omega)]
theorem wpList_make_lst (w : World) (hg : o.guard = none) (l c : Operand) (t : TypeId) (hop : o.op = Op.makeSlice t l c) (base : Nat) (e : TypeId) (hu : P.underlying t = some (.slice e)) (bytes : Nat) (hinfo : (P.info? e).map (fun i => (i.zero, i.size, i.bytes)) = some (some (.agg (k.cells k.d).toArray), k.s, bytes))
    (kl kc : IntKind) (n : Nat) (L C : Int) (hl : a.eval l = .int kl L) (hc : a.eval c = .int kc C) (hL : L = (n : Int)) (hC : C = (n : Int)) (hby : bytes * n ≤ 281474976710656) (hm : n ≤ maxLen) (hbase : base ≤ w.heap.size)
    (h : ∀ w', Blk w' w.heap.size e (flat k (List.replicate n k.d)).toArray → OwnL k e w' base (.slice (some ⟨w.heap.size, 0, none⟩) n n) (List.replicate n k.d) → w.grownBy w' none → wpList P ops Q rest (a.put o.dst (.slice (some ⟨w.heap.size, 0, none⟩) n n)) w') : wpList P ops Q (o :: rest) a w := by
  obtain ⟨ie, hie, hz0, hsz, hb⟩ := info_parts hinfo
  refine wpList_make_full w hg l c t hop base e ie _ k.s hu hie hz0 hsz kl kc L C n hl hc hL hC (by rw [hb]; exact hby) hm hbase ?_
  intro w' h1 h2
  have hcs : (Value.agg (k.cells k.d).toArray).cells = (k.cells k.d).toArray := by simp [Value.cells]
  rw [hcs, made_flat] at h1
  have ho : OwnL k e w' base (.slice (some ⟨w.heap.size, 0, none⟩) n n) (List.replicate n k.d) := by
    unfold OwnL
    rw [List.length_replicate]
    exact h1
  refine h w' ?_ ho h2
  rcases h1.2 with ⟨e', _⟩ | ⟨g, cap, cur, e', hb', hg', hnc, hcm, hcs', ht⟩
  · cases e'
  · injection e' with e1 e2 e3
    injection e1 with e1
    injection e1 with e1
    subst e1
    subst e3
    have : cur = (flat k (List.replicate n k.d)).toArray := by
      rw [← ht, List.take_of_length_le (by simpa using Nat.le_of_eq hcs')]
    rw [← this]
    exact hg'
end
theorem run_front_s {P : Program} {t e : TypeId} (sz : Nat) (ht : P.underlying t = some (.slice e)) (hs : (P.info? e).map (·.size) = some sz) (g off n cap : Nat) {h : Nat} (hh : h ≤ cap) (w : World) :
    (Instr.sliceAt t (.slice (some ⟨g, off, none⟩) n cap) none (some (.int .i64 (h : Int))) none).run P w = .ok (.slice (some ⟨g, off, none⟩) h cap) w := by
  have he : P.elem t = e := by simp [Program.elem, ht]
  have ht' : P.underlying t = some (.slice (P.elem t)) := by rw [he]; exact ht
  obtain ⟨inf, hi, h1⟩ := Option.map_eq_some_iff.1 hs
  have hz : (sizeOf e).run P w = .ok sz w := by simp [sizeOf, typeInfo, hi, h1]
  rw [run_sliceAt_slice w t _ _ _ _ ht', run_slice_h w t _ n cap ht' .i64 _ (by omega) (by omega), he, hz]
  simp only [Result.andThen, sliced, Nat.sub_zero, Int.toNat_natCast, Nat.zero_mul]
  congr 2
  split
  · rfl
  · simp [Addr.add]
theorem run_back_s {P : Program} {t e : TypeId} (sz : Nat) (ht : P.underlying t = some (.slice e)) (hs : (P.info? e).map (·.size) = some sz) (g off n cap : Nat) {l : Nat} (hl : l ≤ n) (hc : l < cap) (w : World) :
    (Instr.sliceAt t (.slice (some ⟨g, off, none⟩) n cap) (some (.int .i64 (l : Int))) none none).run P w = .ok (.slice (some ⟨g, off + l * sz, none⟩) (n - l) (cap - l)) w := by
  have he : P.elem t = e := by simp [Program.elem, ht]
  have ht' : P.underlying t = some (.slice (P.elem t)) := by rw [he]; exact ht
  obtain ⟨inf, hi, h1⟩ := Option.map_eq_some_iff.1 hs
  have hz : (sizeOf e).run P w = .ok sz w := by simp [sizeOf, typeInfo, hi, h1]
  have hne : ¬ cap = l := by omega
  rw [run_sliceAt_slice w t _ _ _ _ ht', run_slice_l w t _ n cap ht' .i64 _ (by omega) (by omega), he, hz]
  simp [Result.andThen, sliced, Addr.add, hne]
theorem laid_rep {α : Type} (x d : α) (i m K : Nat) (hm : i + m ≤ K) : laidL (List.replicate i x ++ List.replicate (K - i) d) i ((List.replicate i x ++ List.replicate (K - i) d).take m) = List.replicate (i + m) x ++ List.replicate (K - (i + m)) d ∨ i < m := by
  by_cases h : i < m
  · exact .inr h
  · left
    have e1 : (List.replicate i x ++ List.replicate (K - i) d).take m = List.replicate m x := by
      rw [List.take_append_of_le_length (by simp; omega), List.take_replicate, Nat.min_eq_left (by omega)]
    rw [e1, laidL, List.length_replicate, List.take_left' (by simp), List.drop_append, List.length_replicate, List.drop_of_length_le (by simp), List.nil_append, List.drop_replicate, ← List.append_assoc, List.replicate_append_replicate]
    congr 2
    omega
end Go.Proofs.YtlinmcgmkpkpaaaDoor.Sl
namespace Go.Proofs.YtlinmcgmkpkpaaaDoor.Vm
open Go.RowKit Go.Shelf Go.Proofs.YtlinmcgmkpkpaaaDoor Mem Held Go.Proofs.YtlinmcgmkpkpaaaDoor.Range Rc Rs Sl
attribute [local irreducible] wpList wpListIn Calls
theorem info_rec3 : (Tryd.prog.info? 51).map (fun i => (i.zero, i.size, i.bytes)) = some (some (.agg #[.bool false, .int .i64 0, .int .i64 0, .int .i64 0]), 4, 32) := by kernel_rfl
theorem size_rec : (Tryd.prog.info? 51).map (·.size) = some 4 := by kernel_rfl
theorem low32 (y : Nat) (hy : y < 4294967296) : bits .and .u64 (y : Int) 4294967295 = (y : Int) := by
  have := Po.mask_u64 (y : Int) 32 (by omega) (by omega) (by omega)
  have e : ((2 : Int) ^ 32 - 1) = 4294967295 := by decide
  rw [e] at this
  rw [this]
  omega
set_option maxRecDepth 100000 in
set_option maxHeartbeats 4000000 in
theorem mul64_any (K : Nat) (h0 : 1 ≤ K) (hK : K ≤ 4) (w : World) :
    Calls Tryd.prog 89 #[.int .u64 1, .int .u64 (K : Int)] w fun e w' => e = .returned (.tuple #[.int .u64 0, .int .u64 (K : Int)]) ∧ w = w' := by
  have e1 : bits .and .u64 1 4294967295 = 1 := low32 1 (by omega)
  have e0 : bits .and .u64 0 4294967295 = 0 := low32 0 (by omega)
  have e2 : bits .and .u64 (K : Int) 4294967295 = (K : Int) := low32 K (by omega)
  have e3 : (K : Int) / 4294967296 = 0 := by omega
  have e4 : (1 : Int) / 4294967296 = 0 := by omega
  rcases (show K = 1 ∨ K = 2 ∨ K = 3 ∨ K = 4 by omega) with rfl | rfl | rfl | rfl
  all_goals
    go_enter Tryd.func89, Tryd.ntmps89
    go_wp2_with fail
    exact bodyPost_ret (results_tmp2 rfl _ _ _) rfl ⟨rfl, rfl⟩
theorem mul_any (K : Nat) (h0 : 1 ≤ K) (hK : K ≤ 4) (w : World) :
    Calls Tryd.prog 68 #[.int .u64 1, .int .u64 (K : Int)] w fun e w' => e = .returned (.tuple #[.int .u64 0, .int .u64 (K : Int)]) ∧ w = w' := by
  go_enter Tryd.func68, Tryd.ntmps68
  go_wp2_with fail
  refine (mul64_any K h0 hK w).mono ?_
  rintro e w1 ⟨rfl, rfl⟩
  go_wp2_with fail
  exact bodyPost_ret (results_tmp2 rfl _ _ _) rfl ⟨rfl, rfl⟩
theorem rep_one (x : R) (K : Nat) (h1 : 1 ≤ K) : laidL (List.replicate K R0) 0 ([x].take 1) = List.replicate 1 x ++ List.replicate (K - 1) R0 := by
  simp [laidL]
set_option maxRecDepth 100000 in
set_option maxHeartbeats 4000000 in
theorem repeat_any (B : Nat) (A : Option Addr) (c K : Nat) (x : R) (w : World) (h : Lst kR w B A 1 [x]) (hB : B ≤ w.heap.size) (h1 : 1 ≤ K) (h4 : K ≤ 4) :
    Calls Tryd.prog 55 #[.slice A 1 c, .int .i64 (K : Int)] w fun e w' => ∃ g, e = .returned (.slice (some ⟨g, 0, none⟩) K K) ∧ Blk w' g 51 (flat kR (List.replicate K x)).toArray ∧ w.heap.size ≤ g ∧ Below w.heap.size w w' := by
  have hcv : IntKind.u64.wrap (K : Int) = (K : Int) := by rw [IntKind.wrap_u64]; omega
  have hx := h.2.1
  go_enter Tryd.func55, Tryd.ntmps55
  go_wp2_with fail
  refine (mul_any K h1 h4 w).mono ?_
  rintro e w1 ⟨rfl, rfl⟩
  go_wp2_with (first
    | (refine wpList_make_lst (k := kR) w rfl _ _ 48 rfl w.heap.size 51 Tryd.underlying48 32 info_rec3 .i64 .i64 K _ _ rfl rfl rfl rfl (by omega) (by simp [maxLen]; omega) (Nat.le_refl _) ?_; intro w1 q1 o1 g1)
    | (refine wpList_copy_lst (w := w1) (k := kR) rfl _ _ 48 48 rfl 51 Tryd.underlying48 size_rec B w.heap.size 0 0 K K A 1 c rfl rfl 51 (List.replicate K R0) [x] 1 q1 (Nat.min_eq_left h1) (by omega) (h.below ((Below.refl w.heap.size w).grown g1 (Nat.le_refl _) (by simp) |>.mono hB)) (by simp) (by simp; omega) ?_; intro w2 q2 g2))
  rw [rep_one x K h1] at q2
  have b1 : Below w.heap.size w w1 := (Below.refl _ w).grown g1 (Nat.le_refl _) (by simp)
  have b2 : Below w.heap.size w w2 := b1.grown g2 b1.size (fun r e => by cases e; exact Nat.le_refl _)
  clear q1 o1 g1 g2 b1
  obtain ⟨g, hg⟩ : ∃ g, w.heap.size = g := ⟨_, rfl⟩
  have HG := Lib.hid hg
  rw [hg] at q2 ⊢
  have b2 : Below g w w2 := hg ▸ b2
  clear hg h
  go_loopw [8] (fun n wr => ∃ i : Nat, 1 ≤ i ∧ i ≤ K ∧ n = .int .i64 i ∧ Blk wr g 51 (flat kR (List.replicate i x ++ List.replicate (K - i) R0)).toArray ∧ Below g w wr) (fun n _ => K - (intOf n).toNat)
  case atStart => exact ⟨1, by omega, h1, rfl, q2, b2⟩
  case round =>
    clear q2 b2
    obtain ⟨i, hi1, hiK, rfl, q, b⟩ := hrel
    by_cases hlt : i < K
    · have hlt' : (i : Int) < (K : Int) := by omega
      have hfront := fun W => run_front_s (P := Tryd.prog) 4 Tryd.underlying48 size_rec g 0 K K (h := i) hiK W
      have hback := fun W => run_back_s (P := Tryd.prog) 4 Tryd.underlying48 size_rec g 0 K K (l := i) hiK hlt W
      have hm1 : min i (K - i) ≤ i := Nat.min_le_left _ _
      have hm2 : min i (K - i) ≤ K - i := Nat.min_le_right _ _
      obtain ⟨m, hm⟩ : ∃ m, min i (K - i) = m := ⟨_, rfl⟩
      have hmN : Nat.min i (K - i) = m := hm
      have hm0 : 0 < m := by omega
      rw [hm] at hm1 hm2
      have hsum : IntKind.i64.wrap ((i : Int) + (m : Int)) = ((i + m : Nat) : Int) := by rw [IntKind.wrap_i64]; omega
      have HLR := Lib.hid ((laid_rep x R0 i m K (by omega)).resolve_right (by omega))
      have HL : Lst kR wr wr.heap.size (some ⟨g, 0, none⟩) i ((List.replicate i x ++ List.replicate (K - i) R0).take i) := lst_take (lst_whole q (n := K) (by simp; omega) (fun y hy => by
        rcases List.mem_append.1 hy with hy | hy
        · rw [List.eq_of_mem_replicate hy]; exact hx x (by simp)
        · rw [List.eq_of_mem_replicate hy]; exact ⟨rfl, rfl, rfl⟩)) i hiK
      clear hm
      go_wp2_with fail
      refine wp_region_held (S := fun W => Below g wr W) (by kernel_rfl) ?_
      change wpAnyH _ _ _ _ _ _ _ _ wr.drew
      have c0_0 := (Below.refl g wr).drew
      refine Held.tk (v := .int .i64 (i : Int)) 0 (some 38) rfl (Held.y_move rfl rfl) c0_0 ?_
      simp only [Act.put, Z1, Z2, Z3]
      refine Held.tk (v := .slice (some ⟨g, 0, none⟩) K K) 1 (some 39) rfl (Held.y_move rfl rfl) c0_0 ?_
      simp only [Act.put, Z1, Z2, Z3]
      refine Held.tk (v := .int .i64 (i : Int)) 2 (some 40) rfl (Held.y_move rfl rfl) c0_0 ?_
      simp only [Act.put, Z1, Z2, Z3]
      refine Held.tk (v := .slice (some ⟨g, 0 + i * 4, none⟩) (K - i) (K - i)) 3 (some 41) rfl (Held.y_slice rfl hback) c0_0 ?_
      simp only [Act.put, Z1, Z2, Z3]
      refine Held.tk (v := .slice (some ⟨g, 0, none⟩) K K) 4 (some 42) rfl (Held.y_move rfl rfl) c0_0 ?_
      simp only [Act.put, Z1, Z2, Z3]
      refine Held.tk (v := .int .i64 (i : Int)) 5 (some 43) rfl (Held.y_move rfl rfl) c0_0 ?_
      simp only [Act.put, Z1, Z2, Z3]
      refine Held.tk (v := .slice (some ⟨g, 0, none⟩) i K) 6 (some 44) rfl (Held.y_slice rfl hfront) c0_0 ?_
      simp only [Act.put, Z1, Z2, Z3]
      refine Held.one 7 (by kernel_rfl) ?_
      refine op_copy_lst (k := kR) (w := wr.drew) 7 (some 45) 48 48 rfl rfl rfl rfl 51 Tryd.underlying48 size_rec wr.heap.size g (0 + i * 4) i (K - i) (K - i) (some ⟨g, 0, none⟩) i K rfl rfl 51 (List.replicate i x ++ List.replicate (K - i) R0) ((List.replicate i x ++ List.replicate (K - i) R0).take i) m q.drew hmN hm0 (HL.keep (fun p hp => rfl)) (by simp; rfl) (by simp; omega) ?_
      intro w3 q3 g3
      rw [List.take_take, Nat.min_eq_left hm1, HLR.out] at q3
      have hgw := q.lt
      have c0_1 : Below g wr w3 := Below.grown (w := wr.drew) c0_0 g3 (Nat.le_of_lt hgw) (fun r e => by cases e; exact Nat.le_refl _)
      refine ⟨c0_1, ?_⟩
      simp only [Act.put, Z1, Z2, Z3]
      refine Held.tk (v := .int .i64 ((i + m : Nat) : Int)) 8 (some 46) rfl (Held.y_int rfl rfl rfl (Held.run_add 3 .i64 (hsum))) c0_1 ?_
      simp only [Act.put, Z1, Z2, Z3]
      refine Held.tk (v := .int .i64 ((i + m : Nat) : Int)) 9 (some 8) rfl (Held.y_assign rfl rfl) c0_1 ?_
      simp only [Act.put, Z1, Z2, Z3]
      refine wpAnyH_done (by kernel_rfl) ?_ _
      have b3 := b.trans c0_1
      clear hmN HLR HL hfront hback hsum q b
      go_wp2_with fail
      go_roundw
      case rel => exact ⟨i + m, by omega, by omega, by go_num, q3, b3⟩
      case measure => simp [intOf]; omega
    · have hiK' : i = K := by omega
      subst hiK'
      rw [Nat.sub_self, List.replicate_zero, List.append_nil] at q
      go_wp2_with fail
      go_ret
      exact ⟨g, rfl, q, by rw [HG.out]; exact Nat.le_refl _, by rw [HG.out]; exact b⟩
end Go.Proofs.YtlinmcgmkpkpaaaDoor.Vm
namespace Go.Proofs.YtlinmcgmkpkpaaaDoor.Sl
open Go.RowKit Go.Shelf Mem Held
section
variable {P : Program} {S : World → Prop} {ρ : Operand → Value} {o : Oper}
theorem y_nil {x : Operand} {A : Addr} (ho : o.op = .nilCheck x) (hx : ρ x = .pointer (some A)) : ∀ w, S w → (execOp ρ o).run P w = .ok (.value (.pointer (some A))) w := fun w _ => by
  simp [execOp, ho, hx]
end
section
variable {α : Type} {k : St α} {P : Program} {ops : Array Oper} {rest : List Oper} {o : Oper} {a : Act} {w : World} {Q : Exit → Act → World → Prop}
theorem op_store_cell (i : Nat) (d : Option Tmp) {K : Act → World → Prop} (ty : TypeId) {x y : Operand} (g j : Nat) (t : TypeId) (cs : Array Value) (v : Value) (hi : ops[i]? = some o) (hd : o.dst = d) (hw : Region.wanted o (yielded ops a.tmps) = true)
    (ho : o.op = .store ty x y) (hx : a.eval x = .pointer (some ⟨g, j, none⟩)) (hy : a.eval y = v) (hb : Blk w g t cs) (hj : j < cs.size) (hsz : (P.info? ty).map (·.size) = some 1) (h1 : v.cells = #[v]) (ho1 : v.oneCell' = true)
    (h : ∀ w', Blk w' g t (cs.setIfInBounds j v) → w.grownBy w' (some g) → K (a.put d undef) w') : wpOp P ops Q i K a w := by
  subst hd
  refine op_wp i hi hw ?_
  unfold Oper.wp execOp
  simp only [ho, hx, hy, Instr.storeAt, Instr.sureAddr, Sem.run_bind, Sem.run_pure, Result.andThen_ok, run_store_elem ty g j _ v (hb.cell (Array.getElem?_eq_getElem hj)) (hb.frozen j) hsz h1 ho1]
  exact h _ (hb.set j v) (grown_setCell _ _ _ _)
theorem blk_setCells {g i : Nat} {t : TypeId} {xs : List α} {f : α} (hb : Blk w g t (flat k xs).toArray) (hi : i < xs.length) :
    w.there g (i * k.s) (k.cells f).toArray.size ∧ Blk (w.setCells g (i * k.s) (k.cells f).toArray.toList) g t (flat k (xs.set i f)).toArray := by
  have hle : (i + 1) * k.s ≤ xs.length * k.s := Nat.mul_le_mul_right _ (by omega)
  rw [Nat.add_mul, Nat.one_mul] at hle
  have hsz : (flat k xs).toArray.size = xs.length * k.s := by rw [List.size_toArray, flat_length]
  refine ⟨fun j hj => ?_, ?_⟩
  · have hj' : j < k.s := by rw [List.size_toArray, k.len] at hj; exact hj
    refine ⟨?_, hb.frozen _⟩
    rw [hb.cell (Array.getElem?_eq_getElem (by rw [hsz]; omega))]
    rfl
  · obtain ⟨cur', h1, h2, h3⟩ := heap_setCells (k.cells f) (i * k.s) w (flat k xs).toArray hb (by rw [k.len, hsz]; omega)
    have : cur' = (flat k (xs.set i f)).toArray := by
      rw [flat_set xs i f hi]
      apply Array.ext'
      rw [h3, k.len]
    rw [← this]
    exact h1
theorem op_store_lst (i : Nat) (d : Option Tmp) {K : Act → World → Prop} (ty : TypeId) {x y : Operand} (g off j : Nat) (t : TypeId) (xs : List α) (f : α) (hi : ops[i]? = some o) (hd : o.dst = d) (hw : Region.wanted o (yielded ops a.tmps) = true)
    (ho : o.op = .store ty x y) (hoff : off = j * k.s) (hx : a.eval x = .pointer (some ⟨g, off, none⟩)) (hy : a.eval y = .agg (k.cells f).toArray) (hb : Blk w g t (flat k xs).toArray) (hj : j < xs.length) (hsz : (P.info? ty).map (·.size) = some k.s)
    (h : ∀ w', Blk w' g t (flat k (xs.set j f)).toArray → w.grownBy w' (some g) → K (a.put d undef) w') : wpOp P ops Q i K a w := by
  subst hd
  subst hoff
  refine op_wp i hi hw ?_
  obtain ⟨h1, h2⟩ := blk_setCells (f := f) hb hj
  exact wp_store_mid ty x y ho g (j * k.s) (k.cells f).toArray hx hy h1 (by rw [hsz, List.size_toArray, k.len]) (all_oneCell_toArray (k.one f)) (h _ h2 (grown_setCells _ _ _ _))
theorem run_copy_head (w : World) (dT sT ty elem : TypeId) (hu : P.underlying dT = some (.slice elem)) (hsz : (P.info? elem).map (·.size) = some 1)
    (g dLen dCap B m mc : Nat) (A : Option Addr) (t : TypeId) (cs : Array Value) (q : IntKind) (zs : List Int) (hb : Blk w g t cs) (hz : Ints w q B A m zs) (hm : m ≤ dLen) (h0 : 0 < m) (hc : m ≤ cs.size) :
    ∃ w', (Builtin.copy_ #[dT, sT] ty #[.slice (some ⟨g, 0, none⟩) dLen dCap, .slice A m mc]).run P w = .ok (.int .i64 (m : Int)) w' ∧ Blk w' g t (zs.map (Value.int q) ++ cs.toList.drop m).toArray ∧ w.grownBy w' (some g) := by
  obtain ⟨b, o2, rfl, _, hcell⟩ := hz.2.2 h0
  have hl := hz.1
  have hrun := run_copy_row (P := P) w dT sT ty elem g 0 dLen dCap ⟨b, o2, none⟩ m mc cs t (zs.map (Value.int q)) hu hsz hb (by rw [List.length_map, hl]; exact (Nat.min_eq_left hm).symm) (fun j v hv => by
      have hj : j < m := by
        have := (List.getElem?_eq_some_iff.1 hv).1
        rw [List.length_map, hl] at this
        exact this
      have e1 : (Addr.mk b o2 none).add j = ⟨b, o2 + j, none⟩ := by unfold Addr.add; split <;> simp_all
      rw [e1, hcell j (by omega), ← hv]
      simp [List.getD_eq_getElem?_getD, show j < zs.length by omega]) (by rw [List.length_map, hl]; omega) (by intro v hv; obtain ⟨z, _, rfl⟩ := List.mem_map.1 hv; rfl)
  rw [List.length_map, hl, Nat.zero_add, List.take_zero, List.nil_append] at hrun
  exact ⟨_, hrun, setRow_heap w g _ _ t _ hb, grown_setRow _ _ _⟩
end
end Go.Proofs.YtlinmcgmkpkpaaaDoor.Sl
namespace Go.Proofs.YtlinmcgmkpkpaaaDoor.Vm
open Go.RowKit Go.Shelf Go.Proofs.YtlinmcgmkpkpaaaDoor Mem Held Go.Proofs.YtlinmcgmkpkpaaaDoor.Range Rc Rs Sl
def mach (r : List Int) (S : Value) (f : Int) : Array Value := (r.map (Value.int .i64) ++ [S, .int .i64 f]).toArray
theorem mach_size {r : List Int} (h : r.length = 8) (S : Value) (f : Int) : (mach r S f).size = 10 := by simp [mach, h]
theorem mach_get {r : List Int} (h : r.length = 8) (S : Value) (f : Int) {i : Nat} (hi : i < 8) : (mach r S f)[i]? = some (.int .i64 (r.getD i 0)) := by
  rw [mach, List.getElem?_toArray, List.getElem?_append_left (by rw [List.length_map, h]; exact hi), List.getElem?_map, List.getElem?_eq_getElem (by rw [h]; exact hi), List.getD_eq_getElem?_getD, List.getElem?_eq_getElem (by rw [h]; exact hi)]
  rfl
theorem mach_8 {r : List Int} (h : r.length = 8) (S : Value) (f : Int) : (mach r S f)[8]? = some S := by
  rw [mach, List.getElem?_toArray, List.getElem?_append_right (by simp [h]), List.length_map, h]
  rfl
theorem mach_9 {r : List Int} (h : r.length = 8) (S : Value) (f : Int) : (mach r S f)[9]? = some (.int .i64 f) := by
  rw [mach, List.getElem?_toArray, List.getElem?_append_right (by simp [h]), List.length_map, h]
  rfl
theorem mach_set {r : List Int} (h : r.length = 8) (S : Value) (f : Int) {i : Nat} (hi : i < 8) (z : Int) : (mach r S f).setIfInBounds i (.int .i64 z) = mach (r.set i z) S f := by
  apply Array.ext'
  rw [Array.toList_setIfInBounds]
  simp only [mach]
  rw [List.set_append_left _ _ (by rw [List.length_map, h]; exact hi), List.map_set]
def Fit (r : List Int) : Prop := ∀ z ∈ r, (Lit.int .i64 z).wf = true
theorem Fit.at_ {r : List Int} (h : Fit r) (i : Nat) : (Lit.int .i64 (r.getD i 0)).wf = true := by
  rw [List.getD_eq_getElem?_getD]
  cases hq : r[i]? with
  | none => rfl
  | some z => exact h z (List.mem_of_getElem? hq)
theorem bits_wf' (op : BinOp) (h : op = .and ∨ op = .or ∨ op = .xor) (a b : Int) : (Lit.int .i64 (bits op .i64 a b)).wf = true := by
  rcases h with rfl | rfl | rfl <;> exact i64_wf _
theorem opV_wf (o : O) {a b c : Int} (hn : (Lit.int .i64 o.n).wf = true) (ha : (Lit.int .i64 a).wf = true) (hb : (Lit.int .i64 b).wf = true) (hc : (Lit.int .i64 c).wf = true) : (Lit.int .i64 (opV o a b c)).wf = true := by
  unfold opV
  by_cases h1 : o.code = 1
  · rw [if_pos h1]; exact hn
  rw [if_neg h1]
  by_cases h2 : o.code = 2
  · rw [if_pos h2]; exact wrap64_wf _
  rw [if_neg h2]
  by_cases h3 : o.code = 3
  · rw [if_pos h3]; exact wrap64_wf _
  rw [if_neg h3]
  by_cases h4 : o.code = 4
  · rw [if_pos h4]; exact wrap64_wf _
  rw [if_neg h4]
  by_cases h5 : o.code = 5
  · rw [if_pos h5]; exact bits_wf' _ (.inl rfl) _ _
  rw [if_neg h5]
  by_cases h6 : o.code = 6
  · rw [if_pos h6]; exact bits_wf' _ (.inr (.inl rfl)) _ _
  rw [if_neg h6]
  by_cases h7 : o.code = 7
  · rw [if_pos h7]; exact bits_wf' _ (.inr (.inr rfl)) _ _
  rw [if_neg h7]
  by_cases h8 : o.code = 8
  · rw [if_pos h8]; split <;> rfl
  rw [if_neg h8]
  by_cases h9 : o.code = 9
  · rw [if_pos h9]; split <;> rfl
  rw [if_neg h9]
  by_cases h10 : o.code = 10
  · rw [if_pos h10]; split <;> assumption
  rw [if_neg h10]
  have h := wf_i64 ha
  have hp : (0 : Int) < 2 ^ (b % 64).toNat := Int.pow_pos (by omega)
  have e : a / 2 ^ (b % 64).toNat ≤ 9223372036854775807 := by
    by_cases h0 : 0 ≤ a
    · exact Int.le_trans (Int.ediv_le_self _ h0) h.2
    · exact Int.le_trans (Int.le_of_lt (Int.ediv_neg_of_neg_of_pos (by omega) hp)) (by omega)
  have e' : -9223372036854775808 ≤ a / 2 ^ (b % 64).toNat := by
    have := Int.le_ediv_of_mul_le hp (a := -9223372036854775808) (b := a) (by
      have hq : (1 : Int) ≤ 2 ^ (b % 64).toNat := by omega
      have : (-9223372036854775808 : Int) * 2 ^ (b % 64).toNat ≤ -9223372036854775808 := by omega
      omega)
    exact this
  generalize a / 2 ^ (b % 64).toNat = z at e e' ⊢
  simp [Lit.wf, IntKind.min, IntKind.max, IntKind.signed, IntKind.bits]
  omega
theorem Fit.step {r : List Int} (h : Fit r) (o : O) (hn : (Lit.int .i64 o.n).wf = true) : Fit (stepR o r) := by
  unfold stepR
  split
  · exact h
  · intro z hz
    rcases List.mem_or_eq_of_mem_set hz with hz | rfl
    · exact h z hz
    · exact opV_wf o hn (h.at_ _) (h.at_ _) (h.at_ _)
theorem Fit.run : ∀ {l : List O} {r : List Int}, Fit r → (∀ o ∈ l, o.wf) → Fit (runR l r)
  | [], _, h, _ => h
  | o :: l, r, h, hl => by
    have h2 := h.step o (hl o (by simp)).2.2.2.2.2
    exact Fit.run (l := l) (r := stepR o r) h2 (fun x hx => hl x (by simp [hx]))
theorem take_snocO (xs : List O) {k : Nat} (hk : k < xs.length) : xs.take (k + 1) = xs.take k ++ [xs.getD k O0] := by
  rw [List.take_succ_eq_append_getElem hk, List.getD_eq_getElem?_getD, List.getElem?_eq_getElem hk]
  rfl
theorem runR_snoc (xs : List O) (r : List Int) {k : Nat} (hk : k < xs.length) : runR (xs.take (k + 1)) r = stepR (xs.getD k O0) (runR (xs.take k) r) := by
  rw [take_snocO xs hk, runR_append]
  rfl
theorem runOut_snoc (f : Int) (xs : List O) (r : List Int) (out : List R) {k : Nat} (hk : k < xs.length) : runOut f (xs.take (k + 1)) r out = stepOut f (xs.getD k O0) (runR (xs.take k) r) (runOut f (xs.take k) r out) := by
  rw [take_snocO xs hk, runOut_append]
  rfl
theorem mayO_says {o : O} {k : Int} (h : mayO o k = true) : 1 ≤ o.code ∧ o.code ≤ 12 ∧ (0 ≤ o.d ∧ o.d < 8) ∧ (0 ≤ o.a ∧ o.a < 8) ∧ (0 ≤ o.b ∧ o.b < 8) ∧ (0 ≤ o.c ∧ o.c < 8) ∧ (o.code = 12 → 0 ≤ o.n ∧ o.n < k) := by
  rw [mayO_eq] at h
  simp only [isReg, mayC, List.all_cons, List.all_nil, Bool.and_true, Bool.and_eq_true, decide_eq_true_eq, Bool.or_eq_true, Bool.not_eq_true', decide_eq_false_iff_not] at h
  obtain ⟨⟨⟨h1, h2⟩, ⟨h3, h4⟩, ⟨h5, h6⟩, ⟨h7, h8⟩⟩, ⟨h9, h10⟩, h11⟩ := h
  exact ⟨h9, h10, ⟨h1, h2⟩, ⟨h3, h4⟩, ⟨h5, h6⟩, ⟨h7, h8⟩, fun e => h11.resolve_left (fun h => h e)⟩
end Go.Proofs.YtlinmcgmkpkpaaaDoor.Vm
namespace Go.Proofs.YtlinmcgmkpkpaaaDoor.Sp
open Go.RowKit Go.Shelf Mem Held Rc Rs Sl Vm
def pcells (x : Int × Int) : List Value := [.int .i64 x.1, .int .i64 x.2]
def pwf (x : Int × Int) : Prop := (Lit.int .i64 x.1).wf = true ∧ (Lit.int .i64 x.2).wf = true
theorem pcells_one (x : Int × Int) : ∀ u ∈ pcells x, u.oneCell' = true := fun u hu => by
  simp only [pcells, List.mem_cons, List.not_mem_nil, or_false] at hu
  rcases hu with rfl | rfl <;> rfl
def kP : St (Int × Int) := ⟨2, pcells, pwf, (0, 0), fun _ => rfl, pcells_one, by omega⟩
def rightB (r k b wk : Int) : Bool := decide (1 ≤ r) && decide (r ≤ 64) && (decide (1 ≤ k) && decide (k ≤ 4)) && (decide (1 ≤ b) && decide (b ≤ 8)) && (decide (1 ≤ wk) && decide (wk ≤ 4)) && decide (k * ((r + b - 1) / b) < 32)
def rightE (r k b wk : Int) : Int := if rightB r k b wk = true then 0 else 1
def liveAt (K : Int) (m f e : List O) (ps : List (Int × Int)) (i : Nat) : List R := (mapR K m f e i (ps.getD i (0, 0)).1 (ps.getD i (0, 0)).2).filter (fun r => !r.d)
def liveTo (K : Int) (m f e : List O) (ps : List (Int × Int)) (n : Nat) : List R := (List.range n).flatMap (liveAt K m f e ps)
def live (K : Int) (m f e : List O) (ps : List (Int × Int)) : List R := liveTo K m f e ps ps.length
theorem liveTo_snoc (K : Int) (m f e : List O) (ps : List (Int × Int)) (n : Nat) : liveTo K m f e ps (n + 1) = liveTo K m f e ps n ++ liveAt K m f e ps n := by simp [liveTo, List.range_succ]
theorem liveTo_prefix (K : Int) (m f e : List O) (ps : List (Int × Int)) : ∀ {i n : Nat}, i ≤ n → liveTo K m f e ps i <+: liveTo K m f e ps n := fun {i n} h => by
  obtain ⟨d, rfl⟩ := Nat.exists_eq_add_of_le h
  induction d with
  | zero => exact List.prefix_refl _
  | succ d ih => exact (ih (by omega)).trans ⟨_, (liveTo_snoc K m f e ps (i + d)).symm⟩
theorem filter_snoc {rs : List R} {j : Nat} (hj : j < rs.length) (h : (rs.getD j R0).d = false) : (rs.take j).filter (fun r => !r.d) ++ [rs.getD j R0] = (rs.take (j + 1)).filter (fun r => !r.d) := by
  rw [List.take_succ_eq_append_getElem hj, List.filter_append, List.getD_eq_getElem?_getD, List.getElem?_eq_getElem hj]
  rw [List.getD_eq_getElem?_getD, List.getElem?_eq_getElem hj] at h
  have h : rs[j].d = false := h
  simp [h]
theorem filter_skip {rs : List R} {j : Nat} (hj : j < rs.length) (h : (rs.getD j R0).d = true) : (rs.take (j + 1)).filter (fun r => !r.d) = (rs.take j).filter (fun r => !r.d) := by
  rw [List.take_succ_eq_append_getElem hj, List.filter_append]
  rw [List.getD_eq_getElem?_getD, List.getElem?_eq_getElem hj] at h
  have h : rs[j].d = true := h
  simp [h]
def ins (F : Int → Int → Int) (k v : Int) : List (Int × Int) → List (Int × Int)
  | [] => [(k, v)]
  | p :: l => if p.1 = k then (p.1, F p.2 v) :: l else p :: ins F k v l
def foldP (F : Int → Int → Int) (rs : List R) : List (Int × Int) := rs.foldl (fun l r => ins F r.k r.v l) []
theorem runOut_wf (M : Int) : ∀ (l : List O) (r : List Int) (out : List R), Fit r → (∀ o ∈ l, o.wf) → (∀ x ∈ out, x.wf) → ∀ x ∈ runOut M l r out, x.wf
  | [], _, _, _, _, h => h
  | o :: l, r, out, hr, hl, h => by
    have ho := hl o (by simp)
    refine runOut_wf M l (stepR o r) (stepOut M o r out) (hr.step o ho.2.2.2.2.2) (fun x hx => hl x (by simp [hx])) (fun x hx => ?_)
    unfold stepOut at hx
    split at hx
    · rcases List.mem_or_eq_of_mem_set hx with hx | rfl
      · exact h x hx
      · unfold emitR
        split
        · exact ⟨rfl, rfl, rfl⟩
        · exact ⟨hr.at_ _, hr.at_ _, wrap64_wf _⟩
    · exact h x hx
theorem mapR_wf {K : Int} {m f e : List O} {n key val : Int} (hm : ∀ o ∈ m, o.wf) (hn : (Lit.int .i64 n).wf = true) (hk : (Lit.int .i64 key).wf = true) (hv : (Lit.int .i64 val).wf = true) : ∀ r ∈ mapR K m f e n key val, r.wf := by
  unfold mapR
  split
  · refine runOut_wf _ _ _ _ (fun z hz => ?_) hm (fun x hx => by rw [List.eq_of_mem_replicate hx]; exact ⟨rfl, rfl, rfl⟩)
    simp only [List.mem_cons, List.not_mem_nil, or_false] at hz
    rcases hz with rfl | rfl | rfl | rfl | rfl | rfl | rfl | rfl
    · exact hk
    · exact hv
    · exact hn
    all_goals rfl
  · intro r hr
    cases hr
theorem fit_of {a b : Int} (ha : (Lit.int .i64 a).wf = true) (hb : (Lit.int .i64 b).wf = true) : Fit [a, b, 0, 0, 0, 0, 0, 0] := fun z hz => by
  simp only [List.mem_cons, List.not_mem_nil, or_false] at hz
  rcases hz with rfl | rfl | rfl | rfl | rfl | rfl | rfl | rfl
  · exact ha
  · exact hb
  all_goals rfl
theorem foldV_wf {K : Int} {m f e : List O} (hf : ∀ o ∈ f, o.wf) (a b : Int) (ha : (Lit.int .i64 a).wf = true) (hb : (Lit.int .i64 b).wf = true) : (Lit.int .i64 (foldV K m f e a b)).wf = true := by
  unfold foldV
  split
  · exact (Fit.run (fit_of ha hb) hf).at_ _
  · rfl
theorem finishV_wf {K : Int} {m f e : List O} (he : ∀ o ∈ e, o.wf) (a b : Int) (ha : (Lit.int .i64 a).wf = true) (hb : (Lit.int .i64 b).wf = true) : (Lit.int .i64 (finishV K m f e a b)).wf = true := by
  unfold finishV
  split
  · exact (Fit.run (fit_of hb ha) he).at_ _
  · rfl
theorem nat_wf {n : Nat} (h : n ≤ 1048576) : (Lit.int .i64 (n : Int)).wf = true := by
  have := wrap64_wf (n : Int)
  rwa [show wrap64 (n : Int) = (n : Int) by unfold wrap64; omega] at this
theorem live_wf {K : Int} {m f e : List O} {ps : List (Int × Int)} (hm : ∀ o ∈ m, o.wf) (hps : ∀ x ∈ ps, pwf x) (hl : ps.length ≤ 1048576) : ∀ r ∈ live K m f e ps, r.wf := fun r hr => by
  obtain ⟨i, hi, hr⟩ := List.mem_flatMap.1 hr
  have hi := List.mem_range.1 hi
  have hp : pwf (ps.getD i (0, 0)) := hps _ (by rw [List.getD_eq_getElem?_getD, List.getElem?_eq_getElem hi]; exact List.getElem_mem _)
  exact mapR_wf hm (nat_wf (by omega)) hp.1 hp.2 r (List.mem_filter.1 hr).1
theorem live_length (K : Int) (m f e : List O) (ps : List (Int × Int)) : (live K m f e ps).length ≤ 4 * ps.length := by
  have : ∀ n, (liveTo K m f e ps n).length ≤ 4 * n := fun n => by
    induction n with
    | zero => simp [liveTo]
    | succ n ih =>
      rw [liveTo_snoc, List.length_append]
      have h1 : (liveAt K m f e ps n).length ≤ 4 := Nat.le_trans (List.length_filter_le _ _) (mapR_length _ _ _ _ _ _ _)
      omega
  exact this _
end Go.Proofs.YtlinmcgmkpkpaaaDoor.Sp
