/-
  The functions Own and Kept of package dominohelp on records, by their contracts.
  Package record's Take, by its contract.
  A number's eight bytes, numbers' bytes, and a number of bytes, by the document's own, by their contracts: with no other layer.
  Slices cut: s[:h] and s[l:] by their run, and what they read as.
  The document's own Ahead, Before, Pack and Take of records, and the laws' first line, by their contracts.
  The document's own may, Size and Pack of blocks, by their contracts.
  The document's own Size of blocks (package dominoref10) by its contract.
  Where every activation may run, what is shown of one operation without a fence holds within a round, and within an iterator, too: no program here.
  Package block: which sizes may be, how long blocks are, and the iterator over records with dead ones behind them, by their contracts.
  Package vm's iterator over a part's operations, by its contract: it hands out each of them, in order, till it is told to stop.
  Package vm's mayBe, by its contract.
  Package vm's Check, by its contract.
  More of lists of structs in memory: made (zeros), copied: no program here.
  slices.Repeat of one record, up to four times, by its contract.
  More steps of a region: a nil check passed, one cell or one struct stored into a block that is known whole, some numbers copied to its head: no program here.
-/
import Derived.Test.YtkiempdpfmolfaaB5
import Derived.OwnWalk
import Derived.Lib.BufferOwn
import Derived.Maps.AppendAt
import Derived.Great.BuildSlice
import Derived.Test.YtkiempdpfmolfaaB4
import Derived.Test.YtkiempdpfmolfaaB1
import Derived.Laws.Slices
import Derived.BigQuiet
import Derived.Test.YtkiempdpfmolfaaB2
import Derived.Laws.CopyOwn
set_option linter.unusedVariables false
namespace Go.Proofs.Ytkiempdpfmolfaa.Rs
open Go.RowKit Go.Shelf Go.Proofs.Ytkiempdpfmolfaa Mem Held Rc
set_option maxRecDepth 100000
attribute [local irreducible] wpList wpListIn Calls
theorem info_recs : (Try.prog.info? 26).map (fun i => (i.size, i.bytes)) = some (4, 32) := by kernel_rfl
theorem recs_of_blk {w : World} {g : Nat} {t : TypeId} {rs qs : List R} (h : Blk w g t (flat (rs ++ qs)).toArray) (hw : ∀ r ∈ rs, r.wf) : Recs w w.heap.size (some ⟨g, 0, none⟩) rs.length rs :=
  ⟨rfl, hw, fun _ => ⟨g, 0, rfl, h.lt, fun j v hv => by
    rw [Nat.zero_add]
    refine h.cell ?_
    rw [List.getElem?_toArray, flat_append, List.getElem?_append_left (List.getElem?_eq_some_iff.1 hv).1]
    exact hv⟩⟩
theorem fill_four {w : World} {g : Nat} {t : TypeId} {cap k : Nat} {rs : List R} {f : R} (h : Fill w g t cap (flat rs) (k * 4)) (hk : k < rs.length) (hf : rs.getD k R0 = f) (hc : k * 4 + 4 ≤ cap) : Fill (w.setCells g (k * 4) f.cells) g t cap (flat rs) ((k + 1) * 4) := by
  have e := fun j hj => flat_at rs k j hj hk
  rw [hf] at e
  have h0 := h.step (u := .bool f.d) (by have := e 0 (by omega); simpa [R.cells] using this) (by omega)
  have h1 := h0.step (u := .int .i64 f.k) (by have := e 1 (by omega); simpa [R.cells] using this) (by omega)
  have h2 := h1.step (u := .int .i64 f.v) (by have := e 2 (by omega); simpa [R.cells] using this) (by omega)
  have h3 := h2.step (u := .int .i64 f.s) (by have := e 3 (by omega); simpa [R.cells] using this) (by omega)
  rw [show (k + 1) * 4 = k * 4 + 1 + 1 + 1 + 1 by omega]
  exact h3
theorem wpList_append_ran {P : Program} {ops : Array Oper} {rest : List Oper} {o : Oper} {a : Act} {w : World} {Q : Exit → Act → World → Prop} (hgd : o.guard = none) (s x : Operand) (ts tx : TypeId) (ho : o.op = .call { callee := .builtin .append, args := #[s, x], argTypes := #[ts, tx] }) (u v r : Value) (w' : World) (hs : a.eval s = u) (hx : a.eval x = v)
    (hr : (Builtin.append_ #[ts, tx] o.type #[u, v]).run P w = .ok r w') (h : wpList P ops Q rest (a.put o.dst r) w') : wpList P ops Q (o :: rest) a w := by
  refine wpList_plain hgd fun K hK => ?_
  unfold Oper.wp execOp
  simp only [ho, resolve, invoke, builtin, Sem.run_bind, Sem.run_pure, Result.andThen_ok, List.map_toArray, List.map_cons, List.map_nil, hs, hx, hr]
  exact hK _ _ h
theorem run_append_recs_fits (w : World) (base g cap B m c : Nat) (A : Option Addr) (rs0 rs : List R) (hown : w.ownsRow base 26 4 (.slice (some ⟨g, 0, none⟩) rs0.length cap) rs0.length (flat rs0)) (h : Recs w B A m rs) (hfit : rs0.length + m ≤ cap) :
    ∃ w', (Builtin.append_ #[27, 27] 27 #[.slice (some ⟨g, 0, none⟩) rs0.length cap, .slice A m c]).run Try.prog w = .ok (.slice (some ⟨g, 0, none⟩) (rs0.length + m) cap) w' ∧ w'.ownsRow base 26 4 (.slice (some ⟨g, 0, none⟩) (rs0.length + m) cap) (rs0.length + m) (flat (rs0 ++ rs)) ∧ w.grownBy w' (some g) := by
  obtain ⟨ie, hie, hsb⟩ := Option.map_eq_some_iff.1 info_recs
  simp only [Prod.mk.injEq] at hsb
  obtain ⟨hsz, hby⟩ := hsb
  cases A with
  | none =>
    have hm : m = 0 := by
      rcases Nat.eq_zero_or_pos m with h0 | h0
      · exact h0
      · obtain ⟨_, _, e, _⟩ := h.2.2 h0
        cases e
    subst hm
    have e : rs = [] := List.eq_nil_of_length_eq_zero h.1
    subst e
    refine ⟨w, ?_, by simpa using hown, World.grownBy.refl w _⟩
    simp [Builtin.append_, run_underlying Try.underlying27, sizeOf, typeInfo, hie, Builtin.lenOf, Builtin.firstCells, show rs0.length ≤ cap by omega, storeCells]
  | some ad =>
    have hcells : ∀ j u, (flat rs)[j]? = some u → w.cell? (ad.add j) = some u := fun j u hu => by
      have hj := (List.getElem?_eq_some_iff.1 hu).1
      rw [flat_length] at hj
      obtain ⟨b, off, e, _, hc⟩ := h.2.2 (by have := h.1; omega)
      injection e with e
      subst e
      rw [show (Addr.mk b off none).add j = ⟨b, off + j, none⟩ by (unfold Addr.add; split <;> simp_all)]
      exact hc j u hu
    obtain ⟨w', h1, h2, h3⟩ := run_append_fits (P := Try.prog) w base 27 27 26 ie 4 Try.underlying27 hie hsz g rs0.length cap (flat rs0) hown ad m c (flat rs) (by rw [flat_length, h.1]) hcells (flat_one' rs) hfit
    exact ⟨w', h1, by rw [flat_append]; exact h2, h3⟩
theorem fill_of_own {w : World} {base g n cap : Nat} {t : TypeId} {cs M : List Value} (h : w.ownsRow base t 4 (.slice (some ⟨g, 0, none⟩) n cap) n cs) (hM : M.take (n * 4) = cs) : Fill w g t (cap * 4) M (n * 4) := by
  rcases h.2 with ⟨e, _⟩ | ⟨g', cap', cur, e, hb, hg, hnc, hcm, hcs, ht⟩
  · cases e
  · injection e with e1 e2 e3
    injection e1 with e1
    injection e1 with e1
    subst e1
    subst e3
    exact ⟨cur, hg, hcs, by rw [hM, ht]⟩
theorem wpList_store_rec {ops : Array Oper} {rest : List Oper} {o : Oper} {a : Act} {w : World} {Q : Exit → Act → World → Prop} (hgd : o.guard = none) (x y : Operand) (ho : o.op = .store 26 x y) (g k cap : Nat) (t : TypeId) (rs : List R) (f : R) (hx : a.eval x = .pointer (some ⟨g, k * 4, none⟩)) (hy : a.eval y = .agg #[.bool f.d, .int .i64 f.k, .int .i64 f.v, .int .i64 f.s])
    (hfl : Fill w g t cap (flat rs) (k * 4)) (hk : k < rs.length) (hf : rs.getD k R0 = f) (hc : k * 4 + 4 ≤ cap)
    (h : ∀ w', Fill w' g t cap (flat rs) ((k + 1) * 4) → w.grownBy w' (some g) → wpList Try.prog ops Q rest (a.put o.dst undef) w') : wpList Try.prog ops Q (o :: rest) a w := by
  have hth : w.there g (k * 4) 4 := fun j hj => by
    obtain ⟨u, hu⟩ := hfl.cell (i := k * 4 + j) (by omega)
    exact ⟨by rw [hu]; rfl, hfl.frozen _⟩
  refine wpList_store_mid hgd _ x y ho g (k * 4) f.cells.toArray hx hy hth (by kernel_rfl) (all_oneCell_toArray (flat_one' [f] |> fun h => by rwa [flat_one] at h)) (h _ ?_ ?_)
  · exact fill_four hfl hk hf hc
  · exact Lib.grownBy_trans (Lib.grownBy_trans (Lib.grownBy_trans (grown_setCell _ _ _ _) (grown_setCell _ _ _ _)) (grown_setCell _ _ _ _)) (grown_setCell _ _ _ _)
set_option maxRecDepth 100000 in
set_option maxHeartbeats 4000000 in
theorem own_any (B : Nat) (A : Option Addr) (n c : Nat) (rs : List R) (f : R) (w : World) (h : Recs w B A n rs) (hB : B ≤ w.heap.size) (hn : n ≤ 1048576) :
    Calls Try.prog 9 #[.slice A n c, .agg #[.bool f.d, .int .i64 f.k, .int .i64 f.v, .int .i64 f.s]] w fun e w' => ∃ g, e = .returned (.slice (some ⟨g, 0, none⟩) n (n + 3)) ∧ w.heap.size ≤ g ∧ Blk w' g 26 (flat (rs ++ [f, f, f])).toArray ∧ Below w.heap.size w w' := by
  obtain ⟨ie, hie, hsb⟩ := Option.map_eq_some_iff.1 info_recs
  simp only [Prod.mk.injEq] at hsb
  obtain ⟨hsz, hby⟩ := hsb
  obtain ⟨zr, hz⟩ : ∃ z, ie.zero = some z := by
    have := zero_rec
    rw [hie] at this
    exact ⟨_, this⟩
  have HL := Lib.hid h.1
  go_enter Try.func9, Try.ntmps9
  go_wp2_with (first
    | (refine wpList_box_blk (w := w) rfl 26 _ rfl _ rfl ?_; intro w1 q1 g1 z1)
    | (at_make; refine wpList_make_own w1 rfl _ _ 27 rfl w1.heap.size 26 ie zr 4 Try.underlying27 hie hz hsz .i64 .i64 _ (n + 3) rfl rfl (by simp) (by rw [hby]; omega) (by unfold maxLen; omega) (Nat.le_refl _) ?_; intro w2 o2 g2; have b1 : Below w.heap.size w w1 := (Below.refl _ w).grown g1 (Nat.le_refl _) (by simp); have b2 := b1.grown g2 b1.size (by simp); obtain ⟨w3, hrun, o3, g3⟩ := run_append_recs_fits w2 w1.heap.size w1.heap.size (n + 3) B n c A [] rs o2 (h.below (b2.mono hB)) (by simp); simp only [List.length_nil, Nat.zero_add, List.nil_append] at hrun o3)
    | (at_builtin; refine wpList_append_ran (w := w2) rfl _ _ 27 27 rfl _ _ _ w3 rfl rfl hrun ?_))
  have hsw : w.heap.size ≤ w1.heap.size := g1.size
  have l1 := q1.lt
  have q3 := (q1.grown g2 (by simp)).grown g3 (by intro e; injection e with e; omega)
  have b3 := b2.grown g3 b2.size (fun r e => by cases e; exact hsw)
  have hfill := fill_of_own (M := flat (rs ++ [f, f, f])) o3 (by rw [flat_append, List.take_left' (by rw [flat_length, HL.out])])
  clear o2 o3 g1 g2 g3 hrun q1 b1 b2 z1
  have HN := Lib.hid (show ∀ k, n ≤ k → k < n + 3 → (rs ++ [f, f, f]).getD k R0 = f from fun k h1 h2 => by
    have hz := HL.out
    rw [List.getD_eq_getElem?_getD, List.getElem?_append_right (by omega), hz]
    have : k - n = 0 ∨ k - n = 1 ∨ k - n = 2 := by omega
    rcases this with e | e | e <;> rw [e] <;> rfl)
  have HLEN := Lib.hid (show (rs ++ [f, f, f]).length = n + 3 by have := HL.out; simp; omega)
  go_loopw [7] (fun i wr => ∃ k : Nat, n ≤ k ∧ k ≤ n + 3 ∧ i = .int .i64 k ∧ Below w.heap.size w wr ∧ Blk wr w.heap.size 26 #[.bool f.d, .int .i64 f.k, .int .i64 f.v, .int .i64 f.s] ∧ Fill wr w1.heap.size 26 ((n + 3) * 4) (flat (rs ++ [f, f, f])) (k * 4)) (fun i _ => n + 3 - (intOf i).toNat)
  case atStart => exact ⟨n, by omega, by omega, rfl, b3, q3, hfill⟩
  case round =>
    clear b3 q3 hfill
    obtain ⟨k, hk0, hk, rfl, hbl, q3, hfl⟩ := hrel
    by_cases hlt : k < n + 3
    · have HK := Lib.hid (show k < (rs ++ [f, f, f]).length by rw [HLEN.out]; exact hlt)
      have HG := Lib.hid (HN.out k hk0 hlt)
      have hlt' : (k : Int) < (n : Int) + 3 := by omega
      have hk1 : (0 : Int) ≤ (k : Int) := by omega
      go_wp2_with (first
        | (refine wpList_load_blk (w := wr) rfl 26 _ rfl w.heap.size 4 rfl 26 _ q3 _ Try.underlying26 rfl (by kernel_rfl) rfl ?_)
        | (refine wpList_run (w := wr) rfl (v := .pointer (some ⟨w1.heap.size, k * 4, none⟩)) (Held.y_addr (S := fun _ => True) rfl rfl rfl (by have := run_addr_of (P := Try.prog) 27 26 w1.heap.size 0 (n + 3) (n + 3) k 4 .i64 Try.underlying27 (by kernel_rfl) hlt; rwa [Nat.zero_add] at this) _ trivial) ?_)
        | (refine wpList_store_rec (w := wr) rfl _ _ rfl w1.heap.size k ((n + 3) * 4) _ _ f rfl rfl hfl HK.out HG.out (by omega) ?_; intro w5 HF g5))
      have HB := hbl.grown g5 hbl.size (fun r e => by cases e; exact hsw)
      have HQ := q3.grown g5 (by intro e; injection e with e; omega)
      clear g5
      go_roundw
      case rel => exact ⟨k + 1, by omega, by omega, by go_num, HB, HQ, HF⟩
      case measure => simp [intOf]; omega
    · have HD := Lib.hid (hfl.done (by omega) (by rw [flat_length, HLEN.out]))
      go_wp2_with fail
      go_ret
      exact ⟨w1.heap.size, rfl, hsw, HD.out, hbl⟩
set_option maxRecDepth 100000 in
set_option maxHeartbeats 4000000 in
theorem kept_any (B : Nat) (A : Option Addr) (n c g : Nat) (rs : List R) (f : R) (w : World) (h : Recs w B A n rs) (hB : B ≤ w.heap.size) (hn : n ≤ 1048576) (hr : Blk w g 26 (flat (rs ++ [f, f, f])).toArray) :
    Calls Try.prog 13 #[.slice (some ⟨g, 0, none⟩) n (n + 3), .slice A n c, .agg #[.bool f.d, .int .i64 f.k, .int .i64 f.v, .int .i64 f.s]] w fun e w' => e = .returned (.bool true) ∧ Below w.heap.size w w' := by
  have HL := Lib.hid h.1
  have HN := Lib.hid (show ∀ k, n ≤ k → k < n + 3 → (rs ++ [f, f, f]).getD k R0 = f from fun k h1 h2 => by
    have hz := HL.out
    rw [List.getD_eq_getElem?_getD, List.getElem?_append_right (by omega), hz]
    have : k - n = 0 ∨ k - n = 1 ∨ k - n = 2 := by omega
    rcases this with e | e | e <;> rw [e] <;> rfl)
  have HLEN := Lib.hid (show (rs ++ [f, f, f]).length = n + 3 by have := HL.out; simp; omega)
  go_enter Try.func13, Try.ntmps13
  go_wp2_with (refine wpList_box_blk (w := w) rfl 26 _ rfl _ rfl ?_; intro w1 q1 g1 z1)
  have b1 : Below w.heap.size w w1 := (Below.refl _ w).grown g1 (Nat.le_refl _) (by simp)
  have hgw := hr.lt
  have hr := hr.grown g1 (by simp)
  have h1 := h.below (b1.mono hB)
  have hi := recs_of_blk hr h.2.1
  rw [h.1] at hi
  clear g1 z1
  refine (plain_any w1.heap.size w1.heap.size (some ⟨g, 0, none⟩) A n n (n + 3) c rs rs w1 hi (h1.more (Nat.le_trans hB b1.size)) (Nat.le_refl _) (Nat.le_refl _) (by omega) (by omega)).mono ?_
  rintro e w2 ⟨rfl, b2⟩
  have hr := hr.after b2
  have q1 := q1.after b2
  have b2 := b1.trans (b2.mono b1.size)
  have ht : decide (rs = rs) = true := by simp
  rw [ht]
  clear b1 hi h1 ht
  go_wp2_with fail
  go_loopw [8] (fun i wr => ∃ k : Nat, n ≤ k ∧ k ≤ n + 3 ∧ i = .int .i64 k ∧ Blk wr g 26 (flat (rs ++ [f, f, f])).toArray ∧ Blk wr w.heap.size 26 #[.bool f.d, .int .i64 f.k, .int .i64 f.v, .int .i64 f.s] ∧ Below w.heap.size w wr) (fun i _ => n + 3 - (intOf i).toNat)
  case atStart => exact ⟨n, by omega, by omega, rfl, hr, q1, b2⟩
  case round =>
    clear hr q1 b2
    obtain ⟨k, hk0, hk, rfl, hr, q1, hst⟩ := hrel
    by_cases hlt : k < n + 3
    · have hrg : wr.rangeAt g (0 + k * 4) f.cells := fun j v hv => by
        have hj : j < 4 := by have := (List.getElem?_eq_some_iff.1 hv).1; simpa [R.cells] using this
        rw [Nat.zero_add]
        refine hr.cell ?_
        rw [List.getElem?_toArray, flat_at _ k j hj (by rw [HLEN.out]; exact hlt), HN.out k hk0 hlt]
        exact hv
      have hlt' : (k : Int) < (n : Int) + 3 := by omega
      have hk1 : (0 : Int) ≤ (k : Int) := by omega
      go_wp2_with fail
      refine wp_region_held (S := fun W => Below wr.heap.size wr W) (by kernel_rfl) ?_
      change wpAnyH _ _ _ _ _ _ _ _ wr.drew
      have c0_0 := (Below.refl wr.heap.size wr).drew
      refine Held.tk (v := .slice (some ⟨g, 0, none⟩) (n + 3) (n + 3)) 0 (some 34) rfl (Held.y_move rfl rfl) c0_0 ?_
      simp only [Act.put, Z1, Z2, Z3]
      refine Held.tk (v := .int .i64 (k : Int)) 1 (some 35) rfl (Held.y_move rfl rfl) c0_0 ?_
      simp only [Act.put, Z1, Z2, Z3]
      refine Held.tk (v := .pointer (some ⟨g, 0 + k * 4, none⟩)) 2 (some 36) rfl (Held.y_addr rfl rfl rfl (run_addr_of 27 26 g 0 (n + 3) (n + 3) k 4 .i64 Try.underlying27 (by kernel_rfl) hlt)) c0_0 ?_
      simp only [Act.put, Z1, Z2, Z3]
      refine Held.tk (v := .agg #[.bool f.d, .int .i64 f.k, .int .i64 f.v, .int .i64 f.s]) 3 (some 37) rfl (y_load_range (n := 4) (cs := f.cells) rfl rfl Try.underlying26 rfl (by kernel_rfl) rfl (fun W hW => range_below hrg hW hr.lt)) c0_0 ?_
      simp only [Act.put, Z1, Z2, Z3]
      refine Held.tk (v := .agg #[.bool f.d, .int .i64 f.k, .int .i64 f.v, .int .i64 f.s]) 4 (some 38) rfl (Held.y_load_blk (n := 4) rfl rfl Try.underlying26 rfl (by kernel_rfl) rfl (fun W hW => q1.below hW q1.lt)) c0_0 ?_
      simp only [Act.put, Z1, Z2, Z3]
      refine Held.tk (v := .bool false) 5 (some 39) rfl (y_ner rfl rfl rfl (by simp)) c0_0 ?_
      simp only [Act.put, Z1, Z2, Z3]
      refine wpAnyH_done (by kernel_rfl) ?_ _
      have hr := hr.after c0_0
      have q1 := q1.after c0_0
      have dz := hst.trans (c0_0.mono hst.size)
      generalize wr.drew = wz at hr q1 dz ⊢
      clear c0_0 hrg
      go_wp2_with fail
      go_roundw
      case rel => exact ⟨k + 1, by omega, by omega, by go_num, hr, q1, dz⟩
      case measure => simp [intOf]; omega
    · go_wp2_with fail
      go_ret
      exact ⟨rfl, hst⟩
def OwnR (w : World) (base : Nat) (v : Value) (rs : List R) : Prop := w.ownsRow base 26 4 v rs.length (flat rs)
theorem OwnR.nil (w : World) (base : Nat) : OwnR w base (.slice none 0 0) [] := World.ownsRow_nil _ _ _ _
theorem OwnR.form {w : World} {base : Nat} {v : Value} {rs : List R} (h : OwnR w base v rs) : ∃ A c, v = .slice A rs.length c ∧ rs.length ≤ c ∧ c ≤ maxLen := Held.row_form h
theorem OwnR.kept {w w' : World} {base : Nat} {v : Value} {rs : List R} (h : OwnR w base v rs) {row : Option Nat} (hg : w.grownBy w' row) (hne : v.ownBlock = none ∨ v.ownBlock ≠ row) : OwnR w' base v rs := World.ownsRow.kept h hg hne
theorem OwnR.below {w w' : World} {base : Nat} {v : Value} {rs : List R} (h : OwnR w base v rs) (hb : Below w.heap.size w w') : OwnR w' base v rs := h.kept (grown_of_below hb none) (by cases v.ownBlock <;> simp)
end Go.Proofs.Ytkiempdpfmolfaa.Rs
namespace Go.Proofs.Ytkiempdpfmolfaa.Rc
open Go.RowKit Go.Shelf Go.Proofs.Ytkiempdpfmolfaa Mem Help Go.Proofs.Ytkiempdpfmolfaa.Sum Po Ky Ct Go.Proofs.Ytkiempdpfmolfaa.Bit Held Go.Proofs.Ytkiempdpfmolfaa.Range
attribute [local go_sem] Oper.semAt_some
attribute [local irreducible] wpList wpListIn Calls
def fld (zs : List Int) (i : Nat) : Int := val ((zs.drop (8 * i)).take 8)
def noneC : Array Value := #[.bool false, .int .i64 0, .int .i64 0, .int .i64 0]
def flds (zs : List Int) : List Int := [fld zs 0, fld zs 1, fld zs 2, fld zs 3]
def TInv (w : World) (gr gn : Nat) (zs : List Int) (pre : List Nat) (W : World) : Prop :=
  Row W gn 70 .u64 (blend (flds zs) (List.replicate 4 0) pre.length) ∧ Blk W gr 26 noneC ∧ Below w.heap.size w W
theorem TInv.own (w : World) (gr gn : Nat) (zs : List Int) {B : Nat} (hB : w.heap.size ≤ B) : OwnFrom B (TInv w gr gn zs) := fun pre W W' row ⟨h1, h2, h4⟩ hg hr =>
  ⟨row_own h1 hg hr, blk_own h2 hg hr, h4.grown hg h4.size (fun r e => Nat.le_trans hB (hr r e).1)⟩
end Go.Proofs.Ytkiempdpfmolfaa.Rc
namespace Go.Proofs.Ytkiempdpfmolfaa.Rc
open Go.RowKit Go.Shelf Go.Proofs.Ytkiempdpfmolfaa Mem Help Go.Proofs.Ytkiempdpfmolfaa.Sum Po Ky Held
attribute [local irreducible] wpList wpListIn Calls
end Go.Proofs.Ytkiempdpfmolfaa.Rc
namespace Go.Proofs.Ytkiempdpfmolfaa.Mem
open Go.RowKit
def Flat (A : Option Addr) (cap : Nat) : Prop := cap = 0 ∨ A = none ∨ ∃ b off, A = some ⟨b, off, none⟩
theorem Flat.head (b off cap : Nat) : Flat (some ⟨b, off, none⟩) cap := .inr (.inr ⟨b, off, rfl⟩)
section
variable {P : Program} {t e : TypeId} {A : Option Addr} {n cap : Nat}
end
theorem Own.flat {w : World} {base : Nat} {t : TypeId} {k : IntKind} {A : Option Addr} {n c : Nat} {zs : List Int} (h : Own w base t k (.slice A n c) zs) : Flat A c := by
  rcases h.2.2 with ⟨hv, _⟩ | ⟨g, cap, cur, hv, _⟩
  · injection hv with e1; exact .inr (.inl e1)
  · injection hv with e1; exact .inr (.inr ⟨g, 0, e1⟩)
end Go.Proofs.Ytkiempdpfmolfaa.Mem
namespace Go.Proofs.Ytkiempdpfmolfaa.Rc
open Go.RowKit Go.Shelf Go.Proofs.Ytkiempdpfmolfaa Mem Help Go.Proofs.Ytkiempdpfmolfaa.Sum Po Ky Ct Go.Proofs.Ytkiempdpfmolfaa.Bit Held
attribute [local irreducible] wpList wpListIn Calls
end Go.Proofs.Ytkiempdpfmolfaa.Rc
namespace Go.Proofs.Ytkiempdpfmolfaa.Rs
open Go.RowKit Go.Shelf Go.Proofs.Ytkiempdpfmolfaa Mem Held Rc Po
attribute [local irreducible] wpList wpListIn Calls
theorem rdead_any (w : World) : Calls Try.prog 26 #[] w fun e w' => e = .returned (.agg #[.bool RD.d, .int .i64 RD.k, .int .i64 RD.v, .int .i64 RD.s]) ∧ Below w.heap.size w w' := by
  go_enter Try.func26, Try.ntmps26
  go_wp2_with (first
    | (refine wpList_alloc_blk (w := w) rfl 26 rfl _ zero_rec ?_; intro w1 q1 g1 z1)
    | (refine wpList_build_blk rfl 26 _ rfl #[.bool true, .int .i64 0, .int .i64 0, .int .i64 0] (by kernel_rfl) ?_)
    | (refine wpList_store_blk (w := w1) rfl 26 _ _ rfl w.heap.size 4 rfl 26 _ #[.bool true, .int .i64 0, .int .i64 0, .int .i64 0] rfl q1 info_rec rfl rfl (by kernel_rfl) ?_; intro w2 q2 g2 z2))
  exact bodyPost_ret (results_blk rfl _ _ w.heap.size 4 _ _ rfl q2 _ Try.underlying26 rfl info_rec rfl) rfl ⟨rfl, ((Below.refl _ w).grown g1 (Nat.le_refl _) (by simp)).grown g2 g1.size (fun r e => by cases e; exact Nat.le_refl _)⟩
def word (zs : List Int) (i : Nat) : List Int := (zs.drop (32 * i)).take 32
end Go.Proofs.Ytkiempdpfmolfaa.Rs
namespace Go.Proofs.Ytkiempdpfmolfaa.Rs
open Go.RowKit Go.Shelf Go.Proofs.Ytkiempdpfmolfaa Mem
attribute [local irreducible] wpList wpListIn Calls
end Go.Proofs.Ytkiempdpfmolfaa.Rs
namespace Go.Proofs.Ytkiempdpfmolfaa.Held
open Go.RowKit
section
variable {P : Program} {ops : Array Oper} {Q Q' : Exit → Act → World → Prop} {n : Nat} {r : Option Nat} {rest : List Oper} {o : Oper} {a : Act} {w : World}
theorem opIn_wide (ho : ∀ c, o.op ≠ .defer c) (hp : ∀ ch a w, ¬ Q' (.panic ch) a w) (hl : ¬ LetsOut Q') {K : Act → World → Prop} (h : o.wp P a w K Q') : o.wpIn (wideR r) n P a w K Q := by
  refine ⟨fun _ _ => trivial, ?_⟩
  rw [Oper.semAt_plain (wideR r) _ _ ho]
  unfold Oper.wp at h
  generalize (execOp a.eval o).run P w = x at h
  cases x with
  | ok y w' =>
    cases y with
    | value v => exact h
    | skip => exact h
    | «defer» d => exact h
    | enter f args =>
      refine ⟨fun hd => absurd (show false = true from hd) (by simp), (calls_wideR (r := r) h).mono fun e w'' he => ?_⟩
      cases e
      · exact he
      · exact (hp _ _ _ he).elim
      · exact (hl he).elim
    | row row args => exact ⟨fun hd => absurd (show false = true from hd) (by simp), rows_wideR h⟩
    | _ => exact h.elim
  | halt y w' =>
    cases y <;> first | exact h.elim | exact (hp _ _ _ h).elim
theorem wpListIn_one {F : Fence} (hF : F = wideR r) (ho : ∀ c, o.op ≠ .defer c) (h : wpList P ops (fun e a' w' => e = .normal ∧ wpListIn F n P ops Q rest a' w') [o] a w) : wpListIn F n P ops Q (o :: rest) a w := by
  subst hF
  unfold wpList at h
  unfold wpListIn
  split
  · rename_i hw
    simp only [hw, if_true] at h
    rcases h with h | ⟨_, a', w', hx⟩
    · refine Oper.wpIn_mono (fun a' w' h' => ?_) (opIn_wide ho (fun ch a w hx => by cases hx.1) (fun ⟨a, w, hx⟩ => by cases hx.1) h)
      exact h'.2
    · cases hx.1
  · rename_i hw
    simp only [hw] at h
    exact ⟨fun _ _ => trivial, h.2⟩
end
end Go.Proofs.Ytkiempdpfmolfaa.Held
namespace Go.Proofs.Ytkiempdpfmolfaa.Rs
open Go.RowKit Go.Shelf Go.Proofs.Ytkiempdpfmolfaa Mem Held Go.Proofs.Ytkiempdpfmolfaa.Range Rc
attribute [local go_sem] Oper.semAt_some
attribute [local irreducible] wpList wpListIn Calls
theorem Recs.only {S : Nat → Prop} {w w' : World} {B n : Nat} {A : Option Addr} {rs : List R} (h : Recs w B A n rs) (ho : Only S w w') (hS : ∀ b, b < B → ¬ S b) : Recs w' B A n rs :=
  ⟨h.1, h.2.1, fun hn => by
    obtain ⟨b, off, e, hb, hc⟩ := h.2.2 hn
    exact ⟨b, off, e, hb, fun j v hv => ho.cell (p := ⟨b, off + j, none⟩) (hS b hb) (hc j v hv)⟩⟩
theorem take_snoc (xs : List R) {k : Nat} (hk : k < xs.length) : xs.take k ++ [xs.getD k R0] = xs.take (k + 1) := by
  rw [List.take_succ_eq_append_getElem hk, List.getD_eq_getElem?_getD, List.getElem?_eq_getElem hk]
  rfl
end Go.Proofs.Ytkiempdpfmolfaa.Rs
namespace Go.Proofs.Ytkiempdpfmolfaa.Vm
open Go.RowKit Go.Shelf Go.Proofs.Ytkiempdpfmolfaa Mem Held Go.Proofs.Ytkiempdpfmolfaa.Range Rc Rs Sl
attribute [local go_sem] Oper.semAt_some
attribute [local irreducible] wpList wpListIn Calls
theorem zero_op : (Try.prog.info? 50).bind (·.zero) = some (.agg #[.int .i64 0, .int .i64 0, .int .i64 0, .int .i64 0, .int .i64 0, .int .i64 0]) := by kernel_rfl
theorem size_op : (Try.prog.info? 50).map (·.size) = some 6 := by kernel_rfl
theorem ops_any (A : Option Addr) (n c : Nat) (w : World) :
    Calls Try.prog 45 #[.slice A n c] w fun e w' => ∃ bx : Nat, e = .returned (.func (.func 53) #[] #[.pointer (some ⟨bx, 0, none⟩)]) ∧ Blk w' bx 22 #[.slice A n c] ∧ w.heap.size ≤ bx ∧ Below w.heap.size w w' := by
  go_enter Try.func45, Try.ntmps45
  go_wp2_with (refine Held.wpList_box_cell (w := w) rfl 22 _ rfl (.slice A n c) rfl rfl ?_; intro u1 q1 g1 z1)
  go_ret
  exact ⟨_, rfl, q1, Nat.le_refl _, (Below.refl _ w).grown g1 (Nat.le_refl _) (by simp)⟩
theorem Lst.only {α : Type} {k : St α} {S : Nat → Prop} {w w' : World} {B n : Nat} {A : Option Addr} {xs : List α} (h : Lst k w B A n xs) (ho : Only S w w') (hS : ∀ b, b < B → ¬ S b) : Lst k w' B A n xs :=
  ⟨h.1, h.2.1, fun hn => by
    obtain ⟨b, off, e, hb, hc⟩ := h.2.2 hn
    exact ⟨b, off, e, hb, fun j v hv => ho.cell (p := ⟨b, off + j, none⟩) (hS b hb) (hc j v hv)⟩⟩
def atO (l : List O) (k : Nat) : Option O := if k < l.length then some (l.getD k O0) else none
def encO (o : O) : Array Value := #[.agg #[.int .i64 o.code, .int .i64 o.d, .int .i64 o.a, .int .i64 o.b, .int .i64 o.c, .int .i64 o.n]]
theorem atO_some {l : List O} {k : Nat} {x : O} (h : atO l k = some x) : k < l.length ∧ x = l.getD k O0 := by
  unfold atO at h
  split at h
  · rename_i hk
    injection h with h
    exact ⟨hk, h.symm⟩
  · cases h
theorem atO_none {l : List O} {k : Nat} (h : atO l k = none) : ¬ k < l.length := by
  unfold atO at h
  split at h
  · cases h
  · assumption
set_option maxRecDepth 100000 in
set_option maxHeartbeats 4000000 in
theorem ops_stop (N bx : Nat) (S : Nat → Prop) (B : Nat) (A : Option Addr) (n c : Nat) (xs : List O) (w : World) (hn40 : n ≤ 40) (hbx : w.cell? ⟨bx, 0, none⟩ = some (.slice A n c)) (hSx : ¬ S bx) (h : Lst kO w B A n xs) (hB : B ≤ w.heap.size) (hSB : ∀ b, b < B → ¬ S b) :
    SeqStop Fence.wide N Try.prog 53 #[.pointer (some ⟨bx, 0, none⟩)] encO (Only S) (atO xs) w := by
  intro l J Jx Nb W hW hJ hJx hN hY h0
  have kbx := (hW.cell (p := ⟨bx, 0, none⟩) (World.block_lt_of_cell? w _ hbx)).trans hbx
  have kv := h.below (hW.mono hB)
  have hBW : B ≤ W.heap.size := Nat.le_trans hB hW.size
  have HL := Lib.hid h.1
  clear hbx h hW
  refine callsIn_of_wp Try.func53 rfl trivial ?_ rfl
  simp only [Try.ntmps53, List.size_toArray, List.length_cons, List.length_nil, Nat.reduceAdd, Nat.reduceSub, Array.replicate_succ, Array.replicate_zero, List.push_toArray, List.append_toArray, List.nil_append, List.cons_append]
  gi_wp2_with fail
  gi_loopw [7] (fun i wr => ∃ k : Nat, k ≤ n ∧ i = .int .i64 k ∧ J k wr ∧ Only S W wr) (fun i _ => n - (intOf i).toNat)
  case atStart => exact ⟨0, by omega, rfl, h0, Only.refl _ _⟩
  case round =>
    obtain ⟨k, hk, rfl, Jk, ok⟩ := hrel
    by_cases hlt : k < n
    · obtain ⟨b, off, rfl, hb, hx⟩ := (Vm.Lst.only kv ok hSB).at_ hlt
      have hbw : b < wr.heap.size := Nat.lt_of_lt_of_le hb (Nat.le_trans hBW ok.size)
      have hY := hY k (xs.getD k O0)
      rw [atO, if_pos (by rw [HL.out]; exact hlt)] at hY
      have hx : wr.rangeAt b (off + k * 6) (xs.getD k O0).cells := hx
      generalize xs.getD k O0 = x at hx hY
      have hlt' : (k : Int) < (n : Int) := by omega
      have hk0 : (0 : Int) ≤ (k : Int) := by omega
      gi_wp2_with (first
        | (refine Held.wpListIn_one (r := none) rfl (by intro c e; cases e) ?_; refine wpList_run (w := wr) rfl (v := .pointer (some ⟨b, off + k * 6, none⟩)) (Held.y_addr (S := fun _ => True) rfl rfl rfl (run_addr_of (P := Try.prog) 22 50 b off n c k 6 .i64 Try.underlying22 size_op hlt) _ trivial) ?_; refine wpList_nil ⟨rfl, ?_⟩)
        | (refine Held.wpListIn_one (r := none) rfl (by intro c e; cases e) ?_; refine wpList_run (w := wr) rfl (v := .agg #[.int .i64 x.code, .int .i64 x.d, .int .i64 x.a, .int .i64 x.b, .int .i64 x.c, .int .i64 x.n]) (y_load_range (S := fun W => W = wr) (n := 6) (cs := x.cells) rfl rfl Try.underlying50 rfl size_op rfl (fun W hW => by rw [hW]; exact hx) _ rfl) ?_; refine wpList_nil ⟨rfl, ?_⟩)
        | (refine Held.wpListIn_one (r := none) rfl (by intro c e; cases e) ?_; refine wpList_alloc_blk (w := wr) rfl 50 rfl _ zero_op ?_; intro w2 q2 g2 z2; refine wpList_nil ⟨rfl, ?_⟩)
        | (refine Held.wpListIn_one (r := none) rfl (by intro c e; cases e) ?_; refine wpList_store_blk (w := w2) rfl 50 _ _ rfl wr.heap.size 6 rfl 50 _ #[.int .i64 x.code, .int .i64 x.d, .int .i64 x.a, .int .i64 x.b, .int .i64 x.c, .int .i64 x.n] rfl q2 size_op rfl rfl (by kernel_rfl) ?_; intro w3 q3 g3 z3; refine wpList_nil ⟨rfl, ?_⟩; have b3 : Below wr.heap.size wr w3 := ((Below.refl _ wr).grown g2 (Nat.le_refl _) (by simp)).grown g3 g2.size (fun r e => by cases e; exact Nat.le_refl _); clear g2 g3 z2 z3 q2)
        | (refine Held.wpListIn_one (r := none) rfl (by intro c e; cases e) ?_; refine wpList_load_blk (w := w3) rfl 50 _ rfl wr.heap.size 6 rfl 50 _ q3 _ Try.underlying50 rfl size_op rfl ?_; refine wpList_nil ⟨rfl, ?_⟩; obtain ⟨fn, tmps, assign, body, hy, hR⟩ := hY w3 (hJ k wr w3 none Jk (grown_of_below b3 none) (fun r e => by cases e)) rfl; have hy : (Instr.yield l #[.agg #[.int .i64 x.code, .int .i64 x.d, .int .i64 x.a, .int .i64 x.b, .int .i64 x.c, .int .i64 x.n]]).run Try.prog w3 = .ok (.round l fn tmps assign body) w3 := hy))
      refine ⟨fun h => (by cases h), ?_⟩
      refine hR.mono ?_
      rintro e W4 (⟨rfl, J4, o4⟩ | ⟨rfl, Jx4⟩)
      · have o5 := (ok.trans (Only.of_below b3)).trans o4
        clear hR hy o4 b3 ok Jk q3 hx
        gi_wp2_with fail
        go_roundw
        case rel => exact ⟨k + 1, by omega, by go_num, J4, o5⟩
        case measure => simp [intOf]; omega
      · gi_wp2_with fail
        exact bodyPost_ret (results_none rfl _ _ _) rfl ⟨⟨_, rfl⟩, .inr ⟨_, Jx4⟩⟩
    · have hkn : k = n := by omega
      subst hkn
      gi_wp2_with fail
      go_end0
      exact ⟨⟨_, rfl⟩, .inl ⟨k, by rw [atO, if_neg (by rw [HL.out]; exact Nat.lt_irrefl _)], Jk⟩⟩
end Go.Proofs.Ytkiempdpfmolfaa.Vm
namespace Go.Proofs.Ytkiempdpfmolfaa.Vm
open Go.RowKit Go.Shelf Go.Proofs.Ytkiempdpfmolfaa Mem Held Go.Proofs.Ytkiempdpfmolfaa.Range Rc Rs Sl
attribute [local go_sem] Oper.semAt_some
attribute [local irreducible] wpList wpListIn Calls
theorem results_one {P : Program} {fn : Func} {p : Tmp} {t : TypeId} (h : fn.results = #[.cell p t]) (tmps : Array Value) (w : World) (g : Nat) (v : Value) (hp : tmps.getD p undef = .pointer (some ⟨g, 0, none⟩))
    (ht : plainT P t = true) (hc : w.cell? ⟨g, 0, none⟩ = some v) : (results fn tmps).run P w = .ok v w := by
  have a1 : (asAddr (.pointer (some ⟨g, 0, none⟩))).run P w = .ok ⟨g, 0, none⟩ w := by simp [asAddr]
  have hp2 : tmps[p]?.getD undef = .pointer (some ⟨g, 0, none⟩) := by simpa using hp
  simp only [results, h]
  simp [Sem.run_bind, Result.andThen, hp2, a1, Held.run_loadVar_cell t _ w v ht hc]
theorem mayP_all {l : List O} {k : Int} (hl : l.length ≤ 40) (h : ∀ i, i < l.length → mayO (l.getD i O0) k = true) : mayP l k = true := by
  unfold mayP
  rw [decide_eq_true hl, Bool.true_and]
  refine List.all_eq_true.2 fun x hx => ?_
  obtain ⟨i, hi, rfl⟩ := List.getElem_of_mem hx
  have := h i hi
  rwa [List.getD_eq_getElem?_getD, List.getElem?_eq_getElem hi] at this
set_option maxRecDepth 100000 in
set_option maxHeartbeats 4000000 in
theorem maybe_long (A : Option Addr) (n c : Nat) (k : Int) (w : World) (hn : 40 < n) :
    Calls Try.prog 33 #[.slice A n c, .int .i64 k] w fun e w' => e = .returned (.bool false) ∧ Below w.heap.size w w' := by
  have hn' : 40 < (n : Int) := by omega
  go_enter Try.func33, Try.ntmps33
  go_wp2_with (first
    | (refine Held.wpList_box_cell (w := w) rfl 3 _ rfl (.int .i64 k) rfl rfl ?_; intro w1 q1 g1 z1)
    | (refine wpList_alloc_cell (w := w1) rfl 4 rfl (.bool false) (by kernel_rfl) rfl ?_; intro w2 q2 g2 z2)
    | (refine wpList_store_box (w := w2) rfl 4 _ _ rfl w1.heap.size rfl 4 _ (.bool false) rfl q2 (by kernel_rfl) rfl rfl ?_; intro w3 q3 g3))
  have b2 : Below w.heap.size w w2 := ((Below.refl _ w).grown g1 (Nat.le_refl _) (by simp)).grown g2 g1.size (by simp)
  exact bodyPost_ret (results_one rfl _ _ w1.heap.size _ rfl (by kernel_rfl) (cell_of_one q3)) rfl ⟨rfl, b2.grown g3 b2.size (fun r e => by cases e; exact g1.size)⟩
def MbI (w : World) (r3 r4 : Nat) (l : List O) (kk : Int) (k : Nat) (W : World) : Prop :=
  k ≤ l.length ∧ W.heap[r3]? = some (.cells #[.int .i64 kk] 3 (0, 0)) ∧ W.heap[r4]? = some (.cells #[.bool false] 4 (0, 0)) ∧ (∀ i, i < k → mayO (l.getD i O0) kk = true) ∧ Below w.heap.size w W
def MbX (w : World) (r4 : Nat) (l : List O) (kk : Int) (c : Code) (k : Nat) (W : World) : Prop :=
  c = .ret ∧ W.heap[r4]? = some (.cells #[.bool false] 4 (0, 0)) ∧ mayP l kk = false ∧ Below w.heap.size w W
theorem MbI.far (w : World) (r3 r4 : Nat) (l : List O) (kk : Int) {B : Nat} (hw : w.heap.size < B) (h3 : r3 < B) (h4 : r4 < B) : Far B (MbI w r3 r4 l kk) := by
  intro k W W' row ⟨h0, h1, h2, ha, hb⟩ hgr hr
  have hne : ∀ i, i < B → some i ≠ row := fun i hi e => by have := hr i e.symm; omega
  exact ⟨h0, Held.keep_cells h1 hgr (hne _ h3), Held.keep_cells h2 hgr (hne _ h4), ha, hb.grown hgr hb.size (fun r e => by have := hr r e; omega)⟩
theorem MbX.far (w : World) (r4 : Nat) (l : List O) (kk : Int) (c : Code) {B : Nat} (hw : w.heap.size < B) (h4 : r4 < B) : Far B (MbX w r4 l kk c) := by
  intro k W W' row ⟨h0, h2, ha, hb⟩ hgr hr
  have hne : ∀ i, i < B → some i ≠ row := fun i hi e => by have := hr i e.symm; omega
  exact ⟨h0, Held.keep_cells h2 hgr (hne _ h4), ha, hb.grown hgr hb.size (fun r e => by have := hr r e; omega)⟩
set_option maxRecDepth 100000 in
set_option maxHeartbeats 4000000 in
theorem maybe_ok (B : Nat) (A : Option Addr) (n c : Nat) (xs : List O) (k : Int) (w : World) (h : Lst kO w B A n xs) (hB : B ≤ w.heap.size) (hn : n ≤ 40) :
    Calls Try.prog 33 #[.slice A n c, .int .i64 k] w fun e w' => e = .returned (.bool (mayP xs k)) ∧ Below w.heap.size w w' := by
  have hn' : (n : Int) ≤ 40 := by omega
  have hit := fun M bx w6 hx hI hB6 => ops_stop M bx (fun _ => False) B A n c xs w6 hn hx (fun e => e) hI hB6 (fun _ _ e => e)
  have HW := Lib.hid h.2.1
  have HLEN := Lib.hid h.1
  obtain ⟨E, hE⟩ : ∃ E, mayP xs k = E := ⟨_, rfl⟩
  rw [hE]
  have HEE := Lib.hid hE
  clear hE
  refine (callsIn_wide (n := 3)).1 ?_
  refine callsIn_of_wp_marks Try.func33 rfl trivial ?_ rfl
  simp only [Try.ntmps33, List.size_toArray, List.length_cons, List.length_nil, Nat.reduceAdd, Nat.reduceSub, Array.replicate_succ, Array.replicate_zero, List.push_toArray, List.append_toArray, List.nil_append, List.cons_append]
  refine wpIn_wide.2 ?_
  go_wp2_with (first
    | (refine Held.wpList_box_cell (w := w) rfl 3 _ rfl (.int .i64 k) rfl rfl ?_; intro w1 q1 g1 z1)
    | (refine wpList_alloc_cell (w := w1) rfl 4 rfl (.bool false) (by kernel_rfl) rfl ?_; intro w2 q2 g2 z2; have q12 := Held.keep_cells q1 g2 (by simp)))
  have l1 : w.heap.size < w1.heap.size := (Array.getElem?_eq_some_iff.1 q1).1
  have l2 : w1.heap.size < w2.heap.size := (Array.getElem?_eq_some_iff.1 q2).1
  have b2 : Below w.heap.size w w2 := ((Below.refl _ w).grown g1 (Nat.le_refl _) (by simp)).grown g2 g1.size (by simp)
  have k2 : MbI w w.heap.size w1.heap.size xs k 0 w2 := ⟨by omega, q12, q2, fun i hi => absurd hi (by omega), b2⟩
  clear g1 g2 z1 z2 q1 q12 q2 b2
  refine (ops_any A n c w2).mono ?_
  rintro e w3 ⟨bx, rfl, qx, hbx, b3⟩
  have k3 : MbI w w.heap.size w1.heap.size xs k 0 w3 := MbI.far w _ _ xs k (B := w2.heap.size) (by omega) (by omega) (by omega) 0 w2 w3 none k2 (grown_of_below b3 none) (fun r e => by cases e)
  have l3 : w1.heap.size < w3.heap.size := Nat.lt_of_lt_of_le l2 b3.size
  have c3 : Below w.heap.size w w3 := k3.2.2.2.2
  have hit := fun M => hit M bx w3 (qx.cell rfl) (h.below (c3.mono hB)) (Nat.le_trans hB c3.size)
  clear k2 b3 qx hbx c3 h
  go_wp2_with fail
  refine (wpIn_wide (n := 3)).1 ?_
  refine wpIn_rangeFunc_stop rfl (by omega) (gf := 53) (lb := #[.pointer (some ⟨bx, 0, none⟩)]) rfl trivial (enters_of Try.func53 (by kernel_rfl) rfl)
    (hit _) (fun h k => h.trans k) (fun W l o o' hl ho hc _ => Only.put W l o o' ho hc) (Below.refl _ _) (fun _ => rfl)
    (xs.length + 1) (MbI w w.heap.size w1.heap.size xs k) (MbX w w1.heap.size xs k) (MbI.far w _ _ xs k (by omega) (by omega) (by omega)) (fun c => MbX.far w _ xs k c (by omega) (by omega)) (fun k W h => by have := h.1; omega) k3
    (fun x a' i W => MbI w w.heap.size w1.heap.size xs k i W ∧ ∃ p, w1.heap.size < p ∧ Blk W p 50 #[.int .i64 x.code, .int .i64 x.d, .int .i64 x.a, .int .i64 x.b, .int .i64 x.c, .int .i64 x.n] ∧ a' = { tmps := #[.slice A n c, .int .i64 k, undef, .pointer (some ⟨w.heap.size, 0, none⟩), .pointer (some ⟨w1.heap.size, 0, none⟩), .pointer (some ⟨p, 0, none⟩), .slice A n c, .int .i64 (n : Int), .bool (decide (40 < (n : Int))), .slice A n c, .func (.func 53) #[] #[.pointer (some ⟨bx, 0, none⟩)], .agg #[.int .i64 x.code, .int .i64 x.d, .int .i64 x.a, .int .i64 x.b, .int .i64 x.c, .int .i64 x.n], undef, undef, undef, undef], defers := [] }) ?ib ?assign ?body ?done ?stop
  case ib =>
    rintro x a' i W W' row ⟨hi, p, hp, hr, h3⟩ hgr hrow
    exact ⟨MbI.far w _ _ xs k (B := w3.heap.size) (by omega) (by omega) (by omega) i W W' row hi hgr (fun r e => (hrow r e).1), p, hp, blk_own hr hgr hrow, h3⟩
  case assign =>
    intro l i x W K hi hat hsz hK
    simp only [encO, Held.zip_one, List.setIfInBounds_toArray, List.set_cons_zero, List.set_cons_succ]
    gi_wp2_with (first
      | (refine Held.wpListIn_one (r := some l) rfl (by intro c e; cases e) ?_; refine wpList_alloc_blk (w := W) rfl 50 rfl _ zero_op ?_; intro v2 q2 g2 z2; refine wpList_nil ⟨rfl, ?_⟩)
      | (refine Held.wpListIn_one (r := some l) rfl (by intro c e; cases e) ?_; refine wpList_store_blk (w := v2) rfl 50 _ _ rfl W.heap.size 6 rfl 50 _ #[.int .i64 x.code, .int .i64 x.d, .int .i64 x.a, .int .i64 x.b, .int .i64 x.c, .int .i64 x.n] rfl q2 size_op rfl rfl (by kernel_rfl) ?_; intro v3 q3 g3 z3; refine wpList_nil ⟨rfl, ?_⟩))
    have b3 : Below W.heap.size W v3 := ((Below.refl _ W).grown g2 (Nat.le_refl _) (by simp)).grown g3 g2.size (fun r e => by cases e; exact Nat.le_refl _)
    exact hK _ _ ((Held.others_of_new g2).trans (Held.others_of_grown q2 g3)) (Only.of_below b3) ⟨MbI.far w _ _ xs k (B := W.heap.size) (by omega) (by omega) (by omega) i _ _ none hi (grown_of_below b3 none) (fun r e => by cases e), W.heap.size, by omega, q3, rfl⟩
  case body =>
    rintro l i x a' W hl hrec ⟨⟨i0, i1, i2, i5, i6⟩, p, hp, hr, rfl⟩ hat hsz
    obtain ⟨hks, hx⟩ := atO_some hat
    have hxw : x.wf := by
      rw [hx, List.getD_eq_getElem?_getD, List.getElem?_eq_getElem hks]
      exact HW.out _ (List.getElem_mem _)
    have HALL := Lib.hid (fun (hm : mayO x k = true) => (show ∀ j, j < i + 1 → mayO (xs.getD j O0) k = true from fun j hj => by
      by_cases hij : j < i
      · exact i5 j hij
      · rw [show j = i by omega, ← hx]; exact hm))
    have HBAD := Lib.hid (fun (hm : mayO x k = false) => bad_all hks (by rw [← hx]; exact hm))
    have c3 := cell_of_one i1
    clear hat hrec hit i5 hx
    gi_wp2_with (refine Held.wpListIn_one (r := some l) rfl (by intro c e; cases e) ?_; refine wpList_load_blk (w := W) rfl 50 _ rfl p 6 rfl 50 _ hr _ Try.underlying50 rfl size_op rfl ?_; refine wpList_nil ⟨rfl, ?_⟩)
    refine ⟨trivial, ?_⟩
    refine (CallsIn.inRound l (callsIn_wide.2 (stand_any x k W))).mono ?_
    rintro e v1 ⟨rfl, b1⟩
    have j1 := (b1.block _ (Array.getElem?_eq_some_iff.1 i1).1).trans i1
    have j2 := (b1.block _ (Array.getElem?_eq_some_iff.1 i2).1).trans i2
    have j6 := i6.trans (b1.mono i6.size)
    cases hm : mayO x k
    · have HF := HBAD.out hm
      gi_wp2_with (refine Held.wpListIn_store_box (w := v1) rfl 4 _ _ rfl w1.heap.size rfl 4 _ (.bool false) rfl j2 (by kernel_rfl) rfl rfl ?_; intro v2 q2 g2)
      exact ⟨(Held.others_of_new (grown_of_below b1 none)).trans (Held.others_of_grown j2 g2), rfl, q2, HF, j6.grown g2 j6.size (fun r e => by cases e; omega)⟩
    · have HT := Lib.hid (HALL.out hm)
      gi_wp2_with fail
      exact ⟨Held.others_of_new (grown_of_below b1 none), Only.of_below b1, by omega, j1, j2, HT.out, j6⟩
  case done =>
    rintro D i W hD hat ⟨i0, i1, i2, i5, i6⟩ hDl
    obtain rfl : i = xs.length := by have := atO_none hat; omega
    have HA := Lib.hid (mayP_all (k := k) (by rw [HLEN.out]; exact hn) i5)
    have hDW : D < W.heap.size := (Array.getElem?_eq_some_iff.1 hDl).1
    clear i5 hat hit
    go_wp2_with (refine wpList_store_box (w := W) rfl 4 _ _ rfl w1.heap.size rfl 4 _ (.bool true) rfl i2 (by kernel_rfl) rfl rfl ?_; intro v2 q2 g2)
    have d2 := (g2.block D hDW (by simp; omega)).trans hDl
    have b2 : Below w.heap.size w v2 := i6.grown g2 i6.size (fun r e => by cases e; omega)
    refine ⟨by simp, .inl ⟨_, _, rfl, run_takeDeferred d2, ?_⟩⟩
    exact ⟨_, results_one rfl _ _ w1.heap.size _ rfl (by kernel_rfl) (cell_of_one ((World.putObj_heap_other (by omega)).trans q2)), by rw [← HEE.out, HA.out], b2.grown (grownBy_putObj' _ D _) b2.size (fun r e => by cases e; omega)⟩
  case stop =>
    rintro D c i W hD ⟨rfl, i2, ha, i6⟩ hDl
    clear hit
    gi_wp2_with fail
    refine ⟨by simp, .inl ⟨_, _, rfl, run_takeDeferred hDl, ?_⟩⟩
    exact ⟨_, results_one rfl _ _ w1.heap.size _ rfl (by kernel_rfl) (cell_of_one ((World.putObj_heap_other (by omega)).trans i2)), by rw [← HEE.out, ha], i6.grown (grownBy_putObj' _ D _) i6.size (fun r e => by cases e; omega)⟩
theorem maybe_any (B : Nat) (A : Option Addr) (n c : Nat) (xs : List O) (k : Int) (w : World) (h : Lst kO w B A n xs) (hB : B ≤ w.heap.size) :
    Calls Try.prog 33 #[.slice A n c, .int .i64 k] w fun e w' => e = .returned (.bool (mayP xs k)) ∧ Below w.heap.size w w' := by
  by_cases hn : n ≤ 40
  · exact maybe_ok B A n c xs k w h hB hn
  · have e : mayP xs k = false := by
      unfold mayP
      rw [h.1, decide_eq_false hn, Bool.false_and]
    rw [e]
    exact maybe_long A n c k w (by omega)
end Go.Proofs.Ytkiempdpfmolfaa.Vm
namespace Go.Proofs.Ytkiempdpfmolfaa.Vm
open Go.RowKit Go.Shelf Go.Proofs.Ytkiempdpfmolfaa Mem Held Go.Proofs.Ytkiempdpfmolfaa.Range Rc Rs Sl
attribute [local irreducible] wpList wpListIn Calls
theorem info_prog : (Try.prog.info? 24).map (·.size) = some 4 := by kernel_rfl
set_option maxRecDepth 100000 in
set_option maxHeartbeats 4000000 in
theorem check_any (B : Nat) (K : Int) (A1 A2 A3 : Option Addr) (n1 c1 n2 c2 n3 c3 : Nat) (m f fi : List O) (w : World) (h1 : Lst kO w B A1 n1 m) (h2 : Lst kO w B A2 n2 f) (h3 : Lst kO w B A3 n3 fi) (hB : B ≤ w.heap.size) :
    Calls Try.prog 19 #[.agg #[.int .i64 K, .slice A1 n1 c1, .slice A2 n2 c2, .slice A3 n3 c3]] w fun e w' => e = .returned (.int .i64 (checkE K m f fi)) ∧ Below w.heap.size w w' := by
  obtain ⟨E, hE⟩ : ∃ E, checkE K m f fi = E := ⟨_, rfl⟩
  rw [hE]
  have HE : Hid ((if (decide (1 ≤ K) && decide (K ≤ 4) && mayP m K && mayP f 0 && mayP fi 0) = true then (0 : Int) else 8) = E) := Lib.hid hE
  clear hE
  go_enter Try.func19, Try.ntmps19
  by_cases hK1 : K < 1
  · have HF := Lib.hid (show 8 = E by rw [← HE.out, decide_eq_false (by omega : ¬ 1 ≤ K)]; rfl)
    clear HE
    go_wp2_with (first
    | (refine wpList_box_blk (w := w) rfl 24 _ rfl #[.int .i64 K, .slice A1 n1 c1, .slice A2 n2 c2, .slice A3 n3 c3] rfl ?_; intro w1 q1 g1 z1; have b1 : Below w.heap.size w w1 := (Below.refl _ w).grown g1 (Nat.le_refl _) (by simp); have hc0 := q1.cell (i := 0) rfl; clear q1 g1 z1)
    | (refine wpList_run (w := w1) rfl (v := .pointer (some ⟨w.heap.size, 0, none⟩)) (Held.y_field (S := fun _ => True) (k := 0) (s := 0) rfl rfl Try.underlying24 rfl (by kernel_rfl) rfl _ trivial) ?_)
    | (refine wpList_run (w := w1) rfl (v := .pointer (some ⟨w.heap.size, 1, none⟩)) (Held.y_field (S := fun _ => True) (k := 1) (s := 0) rfl rfl Try.underlying24 rfl (by kernel_rfl) rfl _ trivial) ?_)
    | (refine wpList_run (w := w1) rfl (v := .pointer (some ⟨w.heap.size, 2, none⟩)) (Held.y_field (S := fun _ => True) (k := 2) (s := 0) rfl rfl Try.underlying24 rfl (by kernel_rfl) rfl _ trivial) ?_)
    | (refine wpList_run (w := w1) rfl (v := .pointer (some ⟨w.heap.size, 3, none⟩)) (Held.y_field (S := fun _ => True) (k := 3) (s := 0) rfl rfl Try.underlying24 rfl (by kernel_rfl) rfl _ trivial) ?_))
    go_ret
    exact ⟨Mem.ret_int HF.out, b1⟩
  by_cases hK4 : 4 < K
  · have HF := Lib.hid (show 8 = E by rw [← HE.out, decide_eq_false (by omega : ¬ K ≤ 4), Bool.and_false]; rfl)
    clear HE
    go_wp2_with (first
    | (refine wpList_box_blk (w := w) rfl 24 _ rfl #[.int .i64 K, .slice A1 n1 c1, .slice A2 n2 c2, .slice A3 n3 c3] rfl ?_; intro w1 q1 g1 z1; have b1 : Below w.heap.size w w1 := (Below.refl _ w).grown g1 (Nat.le_refl _) (by simp); have hc0 := q1.cell (i := 0) rfl; clear q1 g1 z1)
    | (refine wpList_run (w := w1) rfl (v := .pointer (some ⟨w.heap.size, 0, none⟩)) (Held.y_field (S := fun _ => True) (k := 0) (s := 0) rfl rfl Try.underlying24 rfl (by kernel_rfl) rfl _ trivial) ?_)
    | (refine wpList_run (w := w1) rfl (v := .pointer (some ⟨w.heap.size, 1, none⟩)) (Held.y_field (S := fun _ => True) (k := 1) (s := 0) rfl rfl Try.underlying24 rfl (by kernel_rfl) rfl _ trivial) ?_)
    | (refine wpList_run (w := w1) rfl (v := .pointer (some ⟨w.heap.size, 2, none⟩)) (Held.y_field (S := fun _ => True) (k := 2) (s := 0) rfl rfl Try.underlying24 rfl (by kernel_rfl) rfl _ trivial) ?_)
    | (refine wpList_run (w := w1) rfl (v := .pointer (some ⟨w.heap.size, 3, none⟩)) (Held.y_field (S := fun _ => True) (k := 3) (s := 0) rfl rfl Try.underlying24 rfl (by kernel_rfl) rfl _ trivial) ?_))
    go_ret
    exact ⟨Mem.ret_int HF.out, b1⟩
  have hK4' : ¬ K > 4 := by omega
  have HE2 := HE.out
  rw [decide_eq_true (by omega : 1 ≤ K), decide_eq_true (by omega : K ≤ 4), Bool.true_and, Bool.true_and] at HE2
  have HE := Lib.hid HE2
  clear HE2
  go_wp2_with (first
    | (refine wpList_box_blk (w := w) rfl 24 _ rfl #[.int .i64 K, .slice A1 n1 c1, .slice A2 n2 c2, .slice A3 n3 c3] rfl ?_; intro w1 q1 g1 z1; have b1 : Below w.heap.size w w1 := (Below.refl _ w).grown g1 (Nat.le_refl _) (by simp); have hc0 := q1.cell (i := 0) rfl; have hc1 := q1.cell (i := 1) rfl; have L1 := h1.below (b1.mono hB); have L2 := h2.below (b1.mono hB); have L3 := h3.below (b1.mono hB); clear h1 h2 h3 g1 z1)
    | (refine wpList_run (w := w1) rfl (v := .pointer (some ⟨w.heap.size, 0, none⟩)) (Held.y_field (S := fun _ => True) (k := 0) (s := 0) rfl rfl Try.underlying24 rfl (by kernel_rfl) rfl _ trivial) ?_)
    | (refine wpList_run (w := w1) rfl (v := .pointer (some ⟨w.heap.size, 1, none⟩)) (Held.y_field (S := fun _ => True) (k := 1) (s := 0) rfl rfl Try.underlying24 rfl (by kernel_rfl) rfl _ trivial) ?_)
    | (refine wpList_run (w := w1) rfl (v := .pointer (some ⟨w.heap.size, 2, none⟩)) (Held.y_field (S := fun _ => True) (k := 2) (s := 0) rfl rfl Try.underlying24 rfl (by kernel_rfl) rfl _ trivial) ?_)
    | (refine wpList_run (w := w1) rfl (v := .pointer (some ⟨w.heap.size, 3, none⟩)) (Held.y_field (S := fun _ => True) (k := 3) (s := 0) rfl rfl Try.underlying24 rfl (by kernel_rfl) rfl _ trivial) ?_))
  refine (maybe_any B A1 n1 c1 m K w1 L1 (Nat.le_trans hB b1.size)).mono ?_
  rintro e w2 ⟨rfl, b2⟩
  have q2 := q1.after b2
  have L2 := L2.below (b2.mono (Nat.le_trans hB b1.size))
  have L3 := L3.below (b2.mono (Nat.le_trans hB b1.size))
  have b2 := b1.trans (b2.mono b1.size)
  clear q1 b1 L1 hc0 hc1
  generalize mayP m K = bm at HE ⊢
  cases bm
  · have HF := Lib.hid (show 8 = E from HE.out)
    clear HE
    go_wp2_with fail
    go_ret
    exact ⟨Mem.ret_int HF.out, b2⟩
  have hc2 := q2.cell (i := 2) rfl
  go_wp2_with (first
    | (refine wpList_run (w := w2) rfl (v := .pointer (some ⟨w.heap.size, 0, none⟩)) (Held.y_field (S := fun _ => True) (k := 0) (s := 0) rfl rfl Try.underlying24 rfl (by kernel_rfl) rfl _ trivial) ?_)
    | (refine wpList_run (w := w2) rfl (v := .pointer (some ⟨w.heap.size, 1, none⟩)) (Held.y_field (S := fun _ => True) (k := 1) (s := 0) rfl rfl Try.underlying24 rfl (by kernel_rfl) rfl _ trivial) ?_)
    | (refine wpList_run (w := w2) rfl (v := .pointer (some ⟨w.heap.size, 2, none⟩)) (Held.y_field (S := fun _ => True) (k := 2) (s := 0) rfl rfl Try.underlying24 rfl (by kernel_rfl) rfl _ trivial) ?_)
    | (refine wpList_run (w := w2) rfl (v := .pointer (some ⟨w.heap.size, 3, none⟩)) (Held.y_field (S := fun _ => True) (k := 3) (s := 0) rfl rfl Try.underlying24 rfl (by kernel_rfl) rfl _ trivial) ?_))
  refine (maybe_any B A2 n2 c2 f 0 w2 L2 (Nat.le_trans hB b2.size)).mono ?_
  rintro e w3 ⟨rfl, b3⟩
  have q3 := q2.after b3
  have L3 := L3.below (b3.mono (Nat.le_trans hB b2.size))
  have b3 := b2.trans (b3.mono b2.size)
  clear q2 b2 L2 hc2
  generalize mayP f 0 = bf at HE ⊢
  cases bf
  · have HF := Lib.hid (show 8 = E from HE.out)
    clear HE
    go_wp2_with fail
    go_ret
    exact ⟨Mem.ret_int HF.out, b3⟩
  have hc3 := q3.cell (i := 3) rfl
  go_wp2_with (first
    | (refine wpList_run (w := w3) rfl (v := .pointer (some ⟨w.heap.size, 0, none⟩)) (Held.y_field (S := fun _ => True) (k := 0) (s := 0) rfl rfl Try.underlying24 rfl (by kernel_rfl) rfl _ trivial) ?_)
    | (refine wpList_run (w := w3) rfl (v := .pointer (some ⟨w.heap.size, 1, none⟩)) (Held.y_field (S := fun _ => True) (k := 1) (s := 0) rfl rfl Try.underlying24 rfl (by kernel_rfl) rfl _ trivial) ?_)
    | (refine wpList_run (w := w3) rfl (v := .pointer (some ⟨w.heap.size, 2, none⟩)) (Held.y_field (S := fun _ => True) (k := 2) (s := 0) rfl rfl Try.underlying24 rfl (by kernel_rfl) rfl _ trivial) ?_)
    | (refine wpList_run (w := w3) rfl (v := .pointer (some ⟨w.heap.size, 3, none⟩)) (Held.y_field (S := fun _ => True) (k := 3) (s := 0) rfl rfl Try.underlying24 rfl (by kernel_rfl) rfl _ trivial) ?_))
  refine (maybe_any B A3 n3 c3 fi 0 w3 L3 (Nat.le_trans hB b3.size)).mono ?_
  rintro e w4 ⟨rfl, b4⟩
  have b4 := b3.trans (b4.mono b3.size)
  clear q3 b3 L3 hc3
  generalize mayP fi 0 = be at HE ⊢
  cases be
  · have HF := Lib.hid (show 8 = E from HE.out)
    clear HE
    go_wp2_with fail
    go_ret
    exact ⟨Mem.ret_int HF.out, b4⟩
  have HF := Lib.hid (show 0 = E from HE.out)
  clear HE
  go_wp2_with fail
  go_ret
  exact ⟨Mem.ret_int HF.out, b4⟩
end Go.Proofs.Ytkiempdpfmolfaa.Vm
namespace Go.Proofs.Ytkiempdpfmolfaa.Sl
open Go.RowKit Go.Shelf Mem Held
section
variable {α : Type} {k : St α}
end
section
variable {α : Type} {k : St α} {P : Program} {ops : Array Oper} {rest : List Oper} {o : Oper} {a : Act} {w : World} {Q : Exit → Act → World → Prop}
end
end Go.Proofs.Ytkiempdpfmolfaa.Sl
namespace Go.Proofs.Ytkiempdpfmolfaa.Vm
open Go.RowKit Go.Shelf Go.Proofs.Ytkiempdpfmolfaa Mem Held Go.Proofs.Ytkiempdpfmolfaa.Range Rc Rs Sl
attribute [local irreducible] wpList wpListIn Calls
theorem size_rec : (Try.prog.info? 26).map (·.size) = some 4 := by kernel_rfl
end Go.Proofs.Ytkiempdpfmolfaa.Vm
namespace Go.Proofs.Ytkiempdpfmolfaa.Sl
open Go.RowKit Go.Shelf Mem Held
section
variable {P : Program} {S : World → Prop} {ρ : Operand → Value} {o : Oper}
theorem y_nil {x : Operand} {A : Addr} (ho : o.op = .nilCheck x) (hx : ρ x = .pointer (some A)) : ∀ w, S w → (execOp ρ o).run P w = .ok (.value (.pointer (some A))) w := fun w _ => by
  simp [execOp, ho, hx]
end
section
variable {α : Type} {k : St α} {P : Program} {ops : Array Oper} {rest : List Oper} {o : Oper} {a : Act} {w : World} {Q : Exit → Act → World → Prop}
theorem op_store_cell (i : Nat) (d : Option Tmp) {K : Act → World → Prop} (ty : TypeId) {x y : Operand} (g j : Nat) (t : TypeId) (cs : Array Value) (v : Value) (hi : ops[i]? = some o) (hd : o.dst = d) (hw : Region.wanted o (yielded ops a.tmps) = true)
    (ho : o.op = .store ty x y) (hx : a.eval x = .pointer (some ⟨g, j, none⟩)) (hy : a.eval y = v) (hb : Blk w g t cs) (hj : j < cs.size) (hsz : (P.info? ty).map (·.size) = some 1) (h1 : v.cells = #[v]) (ho1 : v.oneCell' = true)
    (h : ∀ w', Blk w' g t (cs.setIfInBounds j v) → w.grownBy w' (some g) → K (a.put d undef) w') : wpOp P ops Q i K a w := by
  subst hd
  refine op_wp i hi hw ?_
  unfold Oper.wp execOp
  simp only [ho, hx, hy, Instr.storeAt, Instr.sureAddr, Sem.run_bind, Sem.run_pure, Result.andThen_ok, run_store_elem ty g j _ v (hb.cell (Array.getElem?_eq_getElem hj)) (hb.frozen j) hsz h1 ho1]
  exact h _ (hb.set j v) (grown_setCell _ _ _ _)
theorem blk_setCells {g i : Nat} {t : TypeId} {xs : List α} {f : α} (hb : Blk w g t (flat k xs).toArray) (hi : i < xs.length) :
    w.there g (i * k.s) (k.cells f).toArray.size ∧ Blk (w.setCells g (i * k.s) (k.cells f).toArray.toList) g t (flat k (xs.set i f)).toArray := by
  have hle : (i + 1) * k.s ≤ xs.length * k.s := Nat.mul_le_mul_right _ (by omega)
  rw [Nat.add_mul, Nat.one_mul] at hle
  have hsz : (flat k xs).toArray.size = xs.length * k.s := by rw [List.size_toArray, flat_length]
  refine ⟨fun j hj => ?_, ?_⟩
  · have hj' : j < k.s := by rw [List.size_toArray, k.len] at hj; exact hj
    refine ⟨?_, hb.frozen _⟩
    rw [hb.cell (Array.getElem?_eq_getElem (by rw [hsz]; omega))]
    rfl
  · obtain ⟨cur', h1, h2, h3⟩ := heap_setCells (k.cells f) (i * k.s) w (flat k xs).toArray hb (by rw [k.len, hsz]; omega)
    have : cur' = (flat k (xs.set i f)).toArray := by
      rw [flat_set xs i f hi]
      apply Array.ext'
      rw [h3, k.len]
    rw [← this]
    exact h1
theorem op_store_lst (i : Nat) (d : Option Tmp) {K : Act → World → Prop} (ty : TypeId) {x y : Operand} (g off j : Nat) (t : TypeId) (xs : List α) (f : α) (hi : ops[i]? = some o) (hd : o.dst = d) (hw : Region.wanted o (yielded ops a.tmps) = true)
    (ho : o.op = .store ty x y) (hoff : off = j * k.s) (hx : a.eval x = .pointer (some ⟨g, off, none⟩)) (hy : a.eval y = .agg (k.cells f).toArray) (hb : Blk w g t (flat k xs).toArray) (hj : j < xs.length) (hsz : (P.info? ty).map (·.size) = some k.s)
    (h : ∀ w', Blk w' g t (flat k (xs.set j f)).toArray → w.grownBy w' (some g) → K (a.put d undef) w') : wpOp P ops Q i K a w := by
  subst hd
  subst hoff
  refine op_wp i hi hw ?_
  obtain ⟨h1, h2⟩ := blk_setCells (f := f) hb hj
  exact wp_store_mid ty x y ho g (j * k.s) (k.cells f).toArray hx hy h1 (by rw [hsz, List.size_toArray, k.len]) (all_oneCell_toArray (k.one f)) (h _ h2 (grown_setCells _ _ _ _))
theorem run_copy_head (w : World) (dT sT ty elem : TypeId) (hu : P.underlying dT = some (.slice elem)) (hsz : (P.info? elem).map (·.size) = some 1)
    (g dLen dCap B m mc : Nat) (A : Option Addr) (t : TypeId) (cs : Array Value) (q : IntKind) (zs : List Int) (hb : Blk w g t cs) (hz : Ints w q B A m zs) (hm : m ≤ dLen) (h0 : 0 < m) (hc : m ≤ cs.size) :
    ∃ w', (Builtin.copy_ #[dT, sT] ty #[.slice (some ⟨g, 0, none⟩) dLen dCap, .slice A m mc]).run P w = .ok (.int .i64 (m : Int)) w' ∧ Blk w' g t (zs.map (Value.int q) ++ cs.toList.drop m).toArray ∧ w.grownBy w' (some g) := by
  obtain ⟨b, o2, rfl, _, hcell⟩ := hz.2.2 h0
  have hl := hz.1
  have hrun := run_copy_row (P := P) w dT sT ty elem g 0 dLen dCap ⟨b, o2, none⟩ m mc cs t (zs.map (Value.int q)) hu hsz hb (by rw [List.length_map, hl]; exact (Nat.min_eq_left hm).symm) (fun j v hv => by
      have hj : j < m := by
        have := (List.getElem?_eq_some_iff.1 hv).1
        rw [List.length_map, hl] at this
        exact this
      have e1 : (Addr.mk b o2 none).add j = ⟨b, o2 + j, none⟩ := by unfold Addr.add; split <;> simp_all
      rw [e1, hcell j (by omega), ← hv]
      simp [List.getD_eq_getElem?_getD, show j < zs.length by omega]) (by rw [List.length_map, hl]; omega) (by intro v hv; obtain ⟨z, _, rfl⟩ := List.mem_map.1 hv; rfl)
  rw [List.length_map, hl, Nat.zero_add, List.take_zero, List.nil_append] at hrun
  exact ⟨_, hrun, setRow_heap w g _ _ t _ hb, grown_setRow _ _ _⟩
end
end Go.Proofs.Ytkiempdpfmolfaa.Sl
