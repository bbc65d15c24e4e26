/-
  Package merge's Sort by its contract: a list of the call's own, as the document sorts.
  The library's slices.Grow of no records and slices.Concat of two lists of records, by their contracts.
  The library's slices.Concat of two lists of records, by its contract.
  Package merge's Split and Sorted by their contracts.
  Package record's Take, by its contract.
  A number's eight bytes, numbers' bytes, and a number of bytes, by the document's own, by their contracts: with no other layer.
  Slices cut: s[:h] and s[l:] by their run, and what they read as.
  The document's own Ahead, Before, Pack and Take of records, and the laws' first line, by their contracts.
  The document's own ahead and Sort (dominoref14), by their contracts.
  The document's own Sorted and Split (dominoref14), and what a program that does nothing does not answer, by their contracts.
  A round's pairs as plain lists: how many they are, which places they have, each in one pair; what the rounds, one behind the other, make of a list: no program here.
-/
import Derived.Test.YtbhgonnonhiocaaB6
import Derived.Test.YtbhgonnonhiocaaB7
import Derived.Test.YtbhgonnonhiocaaB1
import Derived.Test.YtbhgonnonhiocaaB4
import Derived.Laws.Slices
import Derived.BigQuiet
set_option linter.unusedVariables false
namespace Go.Proofs.Ytbhgonnonhiocaa.Mg
open Go.RowKit Go.Shelf Go.Proofs.Ytbhgonnonhiocaa Mem Held Go.Proofs.Ytbhgonnonhiocaa.Range Ct Rc Rs Sl
attribute [local go_sem] Oper.semAt_some
attribute [local irreducible] wpList wpListIn Calls
def mark (D : Nat) : Deferred := { target := .collected D, args := #[] }
theorem leaves_marks {F : Fence} {n : Nat} {P : Program} {fn : Func} {tmps : Array Value} {Rz : Ending → World → Prop} {b0 : Nat} (J : World → Prop) (hJ : ∀ W D, J W → b0 ≤ D → W.heap[D]? = some (.deferred (some [])) → J (W.putObj D (.deferred none))) :
    ∀ (Ds : List Nat) (W : World), Ds.Nodup → (∀ D ∈ Ds, W.heap[D]? = some (.deferred (some [])) ∧ b0 ≤ D) → J W → (∀ W', J W' → LeavesInM F n P fn tmps Rz [] .returning W') → LeavesInM F n P fn tmps Rz (Ds.map mark) .returning W
  | [], W, _, _, hW, h => h W hW
  | D :: Ds, W, hn, hD, hW, h => by
    obtain ⟨h1, h2⟩ := hD D (by simp)
    obtain ⟨hn1, hn2⟩ := List.nodup_cons.1 hn
    refine ⟨by simp, .inl ⟨D, _, rfl, run_takeDeferred h1, ?_⟩⟩
    refine leaves_marks J hJ Ds _ hn2 (fun D' h' => ⟨(World.putObj_heap_other (fun e => hn1 (by subst e; exact h'))).trans (hD D' (by simp [h'])).1, (hD D' (by simp [h'])).2⟩) (hJ W D hW h2 h1) h
section
variable {α : Type} {k : St α} {t : TypeId} {w w' : World} {base n c : Nat} {A : Option Addr} {v : Value} {xs : List α}
theorem own_at0 (h : OwnL k t w base (.slice A n c) xs) (h0 : 0 < n) : ∃ g, A = some ⟨g, 0, none⟩ ∧ base ≤ g ∧ g < w.heap.size ∧ ∃ cur, w.heap[g]? = some (.cells cur t (0, 0)) := by
  rcases h.2 with ⟨e, hn⟩ | ⟨g, cap, cur, e, hb, hg, _⟩
  · injection e with e1 e2 e3
    omega
  · injection e with e1 e2 e3
    exact ⟨g, e1, hb, (Array.getElem?_eq_some_iff.1 hg).1, cur, hg⟩
end
theorem own_new {α : Type} {k : St α} {t : TypeId} {w w' : World} {base : Nat} {v : Value} {xs : List α} {row : Option Nat} (h : OwnL k t w base v xs) (hg : w.grownBy w' row) (hr : ∀ r, row = some r → ∀ b, v.ownBlock = some b → b ≠ r) : OwnL k t w' base v xs := by
  refine OwnL.kept h hg ?_
  cases hv : v.ownBlock with
  | none => exact .inl rfl
  | some b => exact .inr (fun e => hr b e.symm b hv rfl)
theorem own_cells {α : Type} {k : St α} {t : TypeId} {w : World} {base : Nat} {v : Value} {xs : List α} (h : OwnL k t w base v xs) {b : Nat} (e : v.ownBlock = some b) : ∃ cs, w.heap[b]? = some (.cells cs t (0, 0)) := by
  rcases h.2 with ⟨rfl, _⟩ | ⟨g', cap, cur, rfl, _, hg, _⟩
  · cases e
  · have e : some g' = some b := e
    injection e with e
    subst e
    exact ⟨cur, hg⟩
structure SI (w : World) (lb nb : Nat) (V : Value) (n : Nat) (seq : Bool) (Ds : List Nat) (xs : List R) (W : World) : Prop where
  own : OwnL kRec 26 W w.heap.size V xs
  lst : Blk W lb 22 #[V]
  num : Blk W nb 3 #[.int .i64 (n : Int)]
  sq : Blk W w.heap.size 4 #[.bool seq]
  marks : ∀ D ∈ Ds, W.heap[D]? = some (.deferred (some [])) ∧ w.heap.size ≤ D
  below : Below w.heap.size w W
theorem SI.grown {w : World} {lb nb : Nat} {V : Value} {n : Nat} {seq : Bool} {Ds : List Nat} {xs ys : List R} {W W' : World} {row : Option Nat} (h : SI w lb nb V n seq Ds xs W) (hg : W.grownBy W' row) (ho : OwnL kRec 26 W' w.heap.size V ys)
    (h1 : some lb ≠ row) (h2 : some nb ≠ row) (h3 : some w.heap.size ≠ row) (h4 : ∀ D ∈ Ds, some D ≠ row) (h5 : ∀ r, row = some r → w.heap.size ≤ r) : SI w lb nb V n seq Ds ys W' :=
  ⟨ho, h.lst.grown hg h1, h.num.grown hg h2, h.sq.grown hg h3, fun D hD => ⟨(hg.block D (Array.getElem?_eq_some_iff.1 (h.marks D hD).1).1 (h4 D hD)).trans (h.marks D hD).1, (h.marks D hD).2⟩, h.below.grown hg h.below.size h5⟩
theorem SI.far {w : World} {lb nb : Nat} {V : Value} {n : Nat} {seq : Bool} {Ds : List Nat} {xs : List R} {W W' : World} {row : Option Nat} {B : Nat} (h : SI w lb nb V n seq Ds xs W) (hg : W.grownBy W' row) (hr : ∀ r, row = some r → B ≤ r)
    (b1 : lb < B) (b2 : nb < B) (b3 : w.heap.size < B) (b4 : ∀ D ∈ Ds, D < B) (b5 : ∀ b, V.ownBlock = some b → b < B) : SI w lb nb V n seq Ds xs W' := by
  have ne : ∀ b, b < B → some b ≠ row := fun b hb e => by have := hr b e.symm; omega
  refine h.grown hg (h.own.kept hg ?_) (ne _ b1) (ne _ b2) (ne _ b3) (fun D hD => ne _ (b4 D hD)) (fun r e => by have := hr r e; omega)
  cases hv : V.ownBlock with
  | none => exact .inl rfl
  | some b => exact .inr (ne b (b5 b hv))
set_option maxRecDepth 100000 in
set_option maxHeartbeats 8000000 in
theorem sort_any (B : Nat) (A : Option Addr) (n c : Nat) (rs : List R) (seq : Bool) (w : World) (h : Lst kRec w B A n rs) (hB : B ≤ w.heap.size) (hn : n ≤ 1048576) :
    Calls Try.prog 13 #[.slice A n c, .bool seq] w fun e w' => ∃ v, e = .returned v ∧ OwnL kRec 26 w' w.heap.size v (sortR seq rs) ∧ Below w.heap.size w w' := by
  have HL := Lib.hid h.1
  have HW := Lib.hid h.2.1
  have HO := Lib.hid (show oetR seq n rs = sortR seq rs by rw [← oet_is, h.1])
  refine (callsIn_wide (n := 3)).1 ?_
  refine callsIn_of_wp_marks Try.func13 rfl trivial ?_ rfl
  simp only [Try.ntmps13, List.size_toArray, List.length_cons, List.length_nil, Nat.reduceAdd, Nat.reduceSub, Array.replicate_succ, Array.replicate_zero, List.push_toArray, List.append_toArray, List.nil_append, List.cons_append]
  refine wpIn_wide.2 ?_
  go_wp2_with (refine Held.wpList_box_cell (w := w) rfl 4 _ rfl (.bool seq) rfl rfl ?_; intro w1 q1 g1 z1)
  refine wp_scope_straight ?_
  have b1 : Below w.heap.size w w1 := (Below.refl _ w).grown g1 (Nat.le_refl _) (by simp)
  go_wp2_with fail
  refine (clone_any B A n c rs w1 (Lst.below h (b1.mono hB)) (Nat.le_trans hB b1.size) hn).mono ?_
  rintro e w2 ⟨v, rfl, o2, b2⟩
  obtain ⟨A', n', c', rfl, hn', _⟩ := OwnL.form2 o2
  obtain rfl : n' = n := hn'.out.symm.trans HL.out
  have q1 : Blk w1 w.heap.size 4 #[.bool seq] := q1
  have q2 := q1.after b2
  have c2 := b1.trans (b2.mono b1.size)
  have o2 := OwnL.less o2 b1.size
  clear h q1 g1 b1 b2 hn'
  go_wp2_with (first
    | (refine Held.wpList_alloc_cell (w := w2) rfl 22 rfl (.slice none 0 0) (by kernel_rfl) rfl ?_; intro w3 q3 g3 z3)
    | (refine Held.wpList_store_box (w := w3) rfl 22 _ _ rfl w2.heap.size rfl _ _ (.slice A' n' c') rfl q3 (by kernel_rfl) rfl rfl ?_; intro w4 q4 g4; have cb4 := cell_of_one q4)
    | (refine Held.wpList_alloc_cell (w := w4) rfl 3 rfl (.int .i64 0) (by kernel_rfl) rfl ?_; intro w5 q5 g5 z5)
    | (refine Held.wpList_store_box (w := w5) rfl 3 _ _ rfl w4.heap.size rfl _ _ (.int .i64 (n' : Int)) rfl q5 (by kernel_rfl) rfl rfl ?_; intro w6 q6 g6; have cb6 := cell_of_one q6))
  have s3 := g3.size
  have s4 := g4.size
  have s5 := g5.size
  have s6 := g6.size
  have s2 := (Array.getElem?_eq_some_iff.1 q2).1
  have h6 : SI w w2.heap.size w4.heap.size (.slice A' n' c') n' seq [] rs w6 := by
    have k3 := z3.out
    have k5 := z5.out
    have hlt := fun b hb => (OwnL.lt o2 b hb).2
    have o3 := own_new o2 g3 (fun r e => by cases e)
    have o4 := own_new o3 g4 (fun r e b hb => by cases e; have := hlt b hb; omega)
    have o5 := own_new o4 g5 (fun r e => by cases e)
    have o6 := own_new o5 g6 (fun r e b hb => by cases e; have := hlt b hb; omega)
    have y3 := Blk.grown q2 g3 (by simp)
    have y4 := Blk.grown y3 g4 (by intro e; injection e with e; omega)
    have y5 := Blk.grown y4 g5 (by simp)
    have y6 := Blk.grown y5 g6 (by intro e; injection e with e; omega)
    have q4 : Blk w4 w2.heap.size 22 #[.slice A' n' c'] := q4
    have x5 := Blk.grown q4 g5 (by simp)
    have x6 := Blk.grown x5 g6 (by intro e; injection e with e; omega)
    exact ⟨o6, x6, q6, y6, fun D hD => by simp at hD, (((c2.grown g3 c2.size (by simp)).grown g4 (by omega) (fun r e => by cases e; omega)).grown g5 (by omega) (by simp)).grown g6 (by omega) (fun r e => by cases e; omega)⟩
  clear q2 o2 q3 g3 q4 g4 q5 g5 q6 g6 c2 q1 z1
  apply wp_label
  go_wp2_with fail
  have hlb : w.heap.size < w2.heap.size := s2
  have hnb : w2.heap.size < w4.heap.size := by have := z3.out; omega
  have hnz : w4.heap.size < w6.heap.size := by have := z5.out; omega
  generalize w2.heap.size = lb at *
  generalize w4.heap.size = nb at *
  have hon : ∀ b, (Value.slice A' n' c').ownBlock = some b → b < w6.heap.size := fun b hb => (OwnL.lt h6.own b hb).2
  clear s2 s3 s4 s5 s6 z3 z5
  refine wp_loop (fun a W => ∃ (r : Nat) (Ds : List Nat) (v7 v15 v16 v17 v18 v19 v20 v30 : Value), r ≤ n' ∧ a = { tmps := #[.slice A n' c, .bool seq, undef, .pointer (some ⟨w.heap.size, 0, none⟩), .slice none 0 0, .pointer (some ⟨lb, 0, none⟩), .pointer (some ⟨nb, 0, none⟩), v7, undef, .slice A n' c, .slice A' n' c', .slice A' n' c', .int .i64 (n' : Int), .int .i64 (n' : Int), .int .i64 (r : Int), v15, v16, v17, v18, v19, v20, undef, undef, undef, undef, undef, undef, undef, undef, undef, v30, undef], defers := Ds.map mark } ∧ Ds.Nodup ∧ w6.heap.size ≤ W.heap.size ∧ SI w lb nb (.slice A' n' c') n' seq Ds (oetR seq r rs) W) (fun a _ => n' - (intOf (a.tmps.getD 14 undef)).toNat) ?_ ?_
  · exact ⟨0, [], undef, undef, undef, undef, undef, undef, undef, undef, by omega, rfl, List.nodup_nil, Nat.le_refl _, h6⟩
  · rintro a wr ⟨r, Ds, v7, v15, v16, v17, v18, v19, v20, v30, hr, rfl, hnd, hsz, hI⟩
    clear h6
    by_cases hlt : r < n'
    · have hlt' : (r : Int) < (n' : Int) := by omega
      obtain ⟨g, rfl, hg0, hgw, _⟩ := own_at0 hI.own (by omega)
      obtain ⟨f, hf⟩ : ∃ f, r % 2 = f := ⟨_, rfl⟩
      have hf1 : f ≤ 1 := by omega
      have hmod : ((r : Int)).tmod 2 = (f : Int) := by rw [Bi.rem_of (by omega)]; omega
      have hm := fun W => Held.run_rem (P := Try.prog) 3 .i64 (a := (r : Int)) (b := 2) (r := (f : Int)) (by omega) hmod W
      have knb := hI.num.cell (i := 0) rfl
      clear hmod
      go_wp2_with (refine Held.wpList_run (w := wr) rfl (v := .int .i64 (f : Int)) (Bi.y_rem (S := fun _ => True) (r : Int) 2 rfl rfl rfl hm _ trivial) ?_)
      refine (other_any (f : Int) (n' : Int) wr).mono ?_
      rintro e u ⟨bf, bn, rfl, qf, qn, hbf, hbn, bu⟩
      have hob : ∀ b, (Value.slice (some ⟨g, 0, none⟩) n' c').ownBlock = some b → b = g := fun b e => by have e : some g = some b := e; injection e with e; exact e.symm
      have hgl : g ≠ lb := fun e => OwnL.ne_blk hI.own hI.lst (by decide) (by rw [e]; rfl)
      have hgn : g ≠ nb := fun e => OwnL.ne_blk hI.own hI.num (by decide) (by rw [e]; rfl)
      have hgs : g ≠ w.heap.size := fun e => OwnL.ne_blk hI.own hI.sq (by decide) (by rw [e]; rfl)
      have hDl : ∀ D ∈ Ds, D < wr.heap.size := fun D hD => (Array.getElem?_eq_some_iff.1 (hI.marks D hD).1).1
      have hgr : g < w6.heap.size := hon g rfl
      have szu := bu.size
      have hu : SI w lb nb (.slice (some ⟨g, 0, none⟩) n' c') n' seq Ds (oetR seq r rs) u := hI.far (B := wr.heap.size) (grown_of_below bu none) (by simp) (by omega) (by omega) (by omega) hDl (fun b e => by have := hob b e; omega)
      have HXL := Lib.hid (show (oetR seq r rs).length = n' by rw [oetR_length]; exact HL.out)
      have HXW := Lib.hid (show ∀ x ∈ oetR seq r rs, x.wf from fun x hx => HW.out x ((oet_perm seq r rs).mem_iff.1 hx))
      have HNX := Lib.hid (show oetR seq (r + 1) rs = stepsR seq f ((n' - f) / 2) (oetR seq r rs) by rw [oetR, roundR, HXL.out, hf])
      generalize oetR seq r rs = xs at hu HXL HXW HNX
      have hit := fun M => places_stop M bn bf (fun b => b = g) f n' u hf1 (by omega) (qn.cell rfl) (qf.cell rfl) (fun e => by omega) (fun e => by omega)
      clear hI qf qn knb hm hf
      go_wp2_with fail
      refine (wpIn_wide (n := 3)).1 ?_
      refine wpIn_rangeFunc_stop rfl (by omega) (gf := 35) (lb := #[.pointer (some ⟨bn, 0, none⟩), .pointer (some ⟨bf, 0, none⟩)]) rfl trivial (enters_of Try.func35 (by kernel_rfl) rfl)
        (hit _) (fun h k => h.trans k) (fun W l o o' hl ho hc _ => Only.put W l o o' ho hc) (Below.refl _ _) (fun _ => rfl)
        (n' + 2) (fun k W => f + 2 * k ≤ n' ∧ SI w lb nb (.slice (some ⟨g, 0, none⟩) n' c') n' seq Ds (stepsR seq f k xs) W) (fun cd k W => cd = .exit 1 ∧ SI w lb nb (.slice (some ⟨g, 0, none⟩) n' c') n' seq Ds (stepsR seq f ((n' - f) / 2) xs) W)
        (fun k A B row h hg hr => ⟨h.1, h.2.far hg hr (by omega) (by omega) (by omega) (fun D hD => by have := hDl D hD; omega) (fun b e => by have := hob b e; omega)⟩)
        (fun cd k A B row h hg hr => ⟨h.1, h.2.far hg hr (by omega) (by omega) (by omega) (fun D hD => by have := hDl D hD; omega) (fun b e => by have := hob b e; omega)⟩)
        (fun k W h => by have := h.1; omega) ⟨by omega, hu⟩
        (fun x a' k W => SI w lb nb (.slice (some ⟨g, 0, none⟩) n' c') n' seq Ds (stepsR seq f k xs) W ∧ a' = { tmps := #[.slice A n' c, .bool seq, undef, .pointer (some ⟨w.heap.size, 0, none⟩), .slice none 0 0, .pointer (some ⟨lb, 0, none⟩), .pointer (some ⟨nb, 0, none⟩), .int .i64 (r : Int), .int .i64 (x : Int), .slice A n' c, .slice (some ⟨g, 0, none⟩) n' c', .slice (some ⟨g, 0, none⟩) n' c', .int .i64 (n' : Int), .int .i64 (n' : Int), .int .i64 (r : Int), .bool true, .int .i64 (r : Int), .int .i64 (r : Int), .int .i64 (f : Int), .int .i64 (n' : Int), .func (.func 35) #[] #[.pointer (some ⟨bn, 0, none⟩), .pointer (some ⟨bf, 0, none⟩)], .int .i64 (x : Int), undef, undef, undef, undef, undef, undef, undef, undef, v30, undef], defers := [] }) ?ib ?assign ?body ?done ?stop
      case ib =>
        rintro x a' k W W' row ⟨hi, h3⟩ hgr2 hrow
        exact ⟨hi.far (B := u.heap.size) hgr2 (fun r e => (hrow r e).1) (by omega) (by omega) (by omega) (fun D hD => by have := hDl D hD; omega) (fun b e => by have := hob b e; omega), h3⟩
      case assign =>
        intro l k x W K' hi hat hsz' hK
        simp only [encP, Held.zip_one, List.setIfInBounds_toArray, List.set_cons_zero, List.set_cons_succ]
        gi_wp2_with fail
        exact hK _ _ (KeepsOthers.refl _) (Only.refl _ _) ⟨hi.2, rfl⟩
      case body =>
        rintro l k x a' W hl hrec ⟨hi, rfl⟩ hat hsz'
        obtain ⟨hx, hxn⟩ := atP_some hat
        have knb := hi.num.cell (i := 0) rfl
        have klb := hi.lst.cell (i := 0) rfl
        have ksq := hi.sq.cell (i := 0) rfl
        have hsub : IntKind.i64.wrap ((n' : Int) - 1) = ((n' - 1 : Nat) : Int) := by rw [IntKind.wrap_i64]; omega
        by_cases hlast : x = n' - 1
        · have hdec : decide ((x : Int) = ((n' - 1 : Nat) : Int)) = true := by simp; omega
          have hk : k = (n' - f) / 2 := by omega
          subst hk
          clear hit hat
          gi_wp2_with (first
            | (refine Held.wpListIn_one (r := some l) rfl (by intro c e; cases e) ?_; refine Held.wpList_run (w := W) rfl (v := .int .i64 ((n' - 1 : Nat) : Int)) (Bi.y_sub (S := fun _ => True) (n' : Int) 1 rfl rfl rfl hsub _ trivial) ?_; refine wpList_nil ⟨rfl, ?_⟩)
            | (refine Held.wpListIn_one (r := some l) rfl (by intro c e; cases e) ?_; refine Held.wpList_run (w := W) rfl (v := .bool true) (Held.y_eqI (S := fun _ => True) rfl rfl rfl hdec _ trivial) ?_; refine wpList_nil ⟨rfl, ?_⟩; simp only [Act.put, Z1, Z2, Z3]))
          exact ⟨KeepsOthers.refl _, rfl, hi⟩
        · have hdec : decide ((x : Int) = ((n' - 1 : Nat) : Int)) = false := by simp; omega
          have hx1 : x + 1 < n' := by omega
          have hset := settle_any seq w.heap.size g n' c' x (stepsR seq f k xs) W hi.own (fun y hy => HXW.out y ((steps_perm seq f k xs (by have := HXL.out; omega)).mem_iff.1 hy)) hx1 (by omega)
          have HST := Lib.hid (show settleR seq (stepsR seq f k xs) x = stepsR seq f (k + 1) xs by rw [hx]; rfl)
          have hcl : ∃ cs, W.heap[g]? = some (.cells cs 26 (0, 0)) := by
            obtain ⟨g', e1, _, _, cur, e2⟩ := own_at0 hi.own (by omega)
            injection e1 with e1
            injection e1 with e1
            subst e1
            exact ⟨cur, e2⟩
          have HX := Lib.hid hx
          clear hit hat hx
          gi_wp2_with (first
            | (refine Held.wpListIn_one (r := some l) rfl (by intro c e; cases e) ?_; refine Held.wpList_run (w := W) rfl (v := .int .i64 ((n' - 1 : Nat) : Int)) (Bi.y_sub (S := fun _ => True) (n' : Int) 1 rfl rfl rfl hsub _ trivial) ?_; refine wpList_nil ⟨rfl, ?_⟩)
            | (refine Held.wpListIn_one (r := some l) rfl (by intro c e; cases e) ?_; refine Held.wpList_run (w := W) rfl (v := .bool false) (Held.y_eqI (S := fun _ => True) rfl rfl rfl hdec _ trivial) ?_; refine wpList_nil ⟨rfl, ?_⟩; simp only [Act.put, Z1, Z2, Z3]))
          refine ⟨trivial, ?_⟩
          refine (CallsIn.inRound l (callsIn_wide.2 hset)).mono ?_
          rintro e w7 ⟨⟨v, rfl⟩, o7, g7⟩
          gi_wp2_with fail
          rw [HST.out] at o7
          obtain ⟨cs, hcs⟩ := hcl
          have hgD : ∀ D ∈ Ds, some D ≠ some g := fun D hD e => by
            injection e with e
            have := (hi.marks D hD).1
            rw [e, hcs] at this
            cases this
          exact ⟨Held.others_of_grown hcs g7, Only.of_grown g7 (fun r e => by cases e; rfl), by have := HX.out; omega, hi.grown g7 o7 (by intro e; injection e with e; omega) (by intro e; injection e with e; omega) (by intro e; injection e with e; omega) hgD (fun r e => by cases e; omega)⟩
      case done =>
        rintro D k W hD hat ⟨hk, hi⟩ hDl'
        have hnk := atP_none hat
        obtain rfl : k = (n' - f) / 2 := by omega
        clear hit hat
        go_wp2_with fail
        have hDn : D ∉ Ds := fun hm => by have := hDl D hm; omega
        have hDW := (Array.getElem?_eq_some_iff.1 hDl').1
        have hcast : ((r + 1 : Nat) : Int) = (r : Int) + 1 := by omega
        refine ⟨⟨r + 1, D :: Ds, .int .i64 (r : Int), .bool true, .int .i64 (r : Int), .int .i64 (r : Int), .int .i64 (f : Int), .int .i64 (n' : Int), .func (.func 35) #[] #[.pointer (some ⟨bn, 0, none⟩), .pointer (some ⟨bf, 0, none⟩)], .int .i64 ((r : Int) + 1), by omega, by rw [hcast]; rfl, List.nodup_cons.2 ⟨hDn, hnd⟩, by omega, ?_⟩, ?_⟩
        · rw [HNX.out]
          exact ⟨hi.own, hi.lst, hi.num, hi.sq, fun D' hm => (List.mem_cons.1 hm).elim (fun e => by subst e; exact ⟨hDl', by omega⟩) (fun h' => hi.marks D' h'), hi.below⟩
        · simp [intOf]; omega
      case stop =>
        rintro D cd k W hD ⟨rfl, hi⟩ hDl'
        clear hit
        refine wpIn_wide.2 ?_
        go_wp2_with fail
        have hDn : D ∉ Ds := fun hm => by have := hDl D hm; omega
        have hDW := (Array.getElem?_eq_some_iff.1 hDl').1
        have hcast : ((r + 1 : Nat) : Int) = (r : Int) + 1 := by omega
        refine ⟨⟨r + 1, D :: Ds, .int .i64 (r : Int), .bool true, .int .i64 (r : Int), .int .i64 (r : Int), .int .i64 (f : Int), .int .i64 (n' : Int), .func (.func 35) #[] #[.pointer (some ⟨bn, 0, none⟩), .pointer (some ⟨bf, 0, none⟩)], .int .i64 ((r : Int) + 1), by omega, by rw [hcast]; rfl, List.nodup_cons.2 ⟨hDn, hnd⟩, by omega, ?_⟩, ?_⟩
        · rw [HNX.out]
          exact ⟨hi.own, hi.lst, hi.num, hi.sq, fun D' hm => (List.mem_cons.1 hm).elim (fun e => by subst e; exact ⟨hDl', by omega⟩) (fun h' => hi.marks D' h'), hi.below⟩
        · simp [intOf]; omega
    · obtain rfl : r = n' := by omega
      have klb := hI.lst.cell (i := 0) rfl
      obtain ⟨L, hL⟩ : ∃ L, Ds.map mark = L := ⟨_, rfl⟩
      have HLm := Lib.hid hL
      rw [hL]
      clear hL
      go_wp2_with fail
      rw [HO.out] at hI
      change LeavesInM _ _ _ _ _ _ L .returning wr
      rw [← HLm.out]
      refine leaves_marks (b0 := w.heap.size) (fun W => OwnL kRec 26 W w.heap.size (.slice A' r c') (sortR seq rs) ∧ Below w.heap.size w W) (fun W D hJ hD hDl => ?_) Ds wr hnd hI.marks ⟨hI.own, hI.below⟩ ?_
      case refine_2 => exact fun W' hJ => ⟨_, results_tmp (t := 4) rfl _ _ _, .slice A' r c', rfl, hJ.1, hJ.2⟩
      refine ⟨own_new hJ.1 (grownBy_putObj' W D _) (fun r e b hb => ?_), hJ.2.grown (grownBy_putObj' W D _) hJ.2.size (fun r e => by cases e; exact hD)⟩
      cases e
      obtain ⟨cs, hcs⟩ := own_cells hJ.1 hb
      intro e
      rw [e, hDl] at hcs
      cases hcs
end Go.Proofs.Ytbhgonnonhiocaa.Mg
namespace Go.Proofs.Ytbhgonnonhiocaa.Mg
open Go.RowKit Go.Shelf Go.Proofs.Ytbhgonnonhiocaa Mem Held Ct Rc Rs Sl
attribute [local irreducible] wpList wpListIn Calls
theorem run_front_nil {P : Program} {t e : TypeId} (sz : Nat) (ht : P.underlying t = some (.slice e)) (hs : (P.info? e).map (·.size) = some sz) (w : World) : (Instr.sliceAt t (.slice none 0 0) none (some (.int .i64 0)) none).run P w = .ok (.slice none 0 0) w := by
  have he : P.elem t = e := by simp [Program.elem, ht]
  have ht' : P.underlying t = some (.slice (P.elem t)) := by rw [he]; exact ht
  obtain ⟨inf, hi, h1⟩ := Option.map_eq_some_iff.1 hs
  have hz : (sizeOf e).run P w = .ok sz w := by simp [sizeOf, typeInfo, hi, h1]
  rw [run_sliceAt_slice w t _ _ _ _ ht', run_slice_h w t _ 0 0 ht' .i64 0 (by omega) (by omega), he, hz]
  rfl
theorem run_back_nil {P : Program} {t e : TypeId} (sz : Nat) (ht : P.underlying t = some (.slice e)) (hs : (P.info? e).map (·.size) = some sz) (A : Option Addr) (n cap : Nat) : ∃ A' c', ∀ w : World, (Instr.sliceAt t (.slice A n cap) (some (.int .i64 (n : Int))) none none).run P w = .ok (.slice A' 0 c') w := by
  have he : P.elem t = e := by simp [Program.elem, ht]
  have ht' : P.underlying t = some (.slice (P.elem t)) := by rw [he]; exact ht
  obtain ⟨inf, hi, h1⟩ := Option.map_eq_some_iff.1 hs
  refine ⟨if cap = n then A else A.map (·.add (n * sz)), cap - n, fun w => ?_⟩
  have hz : (sizeOf e).run P w = .ok sz w := by simp [sizeOf, typeInfo, hi, h1]
  rw [run_sliceAt_slice w t _ _ _ _ ht', run_slice_l w t _ n cap ht' .i64 _ (by omega) (by omega), he, hz]
  simp only [Result.andThen, sliced, Int.toNat_natCast, Nat.sub_self]
theorem own_parts {w : World} {base n c h : Nat} {A : Option Addr} {rs : List R} (ho : OwnL kRec 26 w base (.slice A n c) rs) (hw : ∀ r ∈ rs, r.wf) (hh : h ≤ n) :
    ∃ A1 A2 c2, (∀ W : World, (Instr.sliceAt 22 (.slice A n c) none (some (.int .i64 (h : Int))) none).run Try.prog W = .ok (.slice A1 h c) W) ∧ (∀ W : World, (Instr.sliceAt 22 (.slice A n c) (some (.int .i64 (h : Int))) none none).run Try.prog W = .ok (.slice A2 (n - h) c2) W) ∧
      Lst kRec w w.heap.size A1 h (rs.take h) ∧ Lst kRec w w.heap.size A2 (n - h) (rs.drop h) := by
  have hl := OwnL.lst ho hw
  have hL := hl.1
  rcases Nat.eq_zero_or_pos n with h0 | h0
  · obtain rfl : h = 0 := by omega
    obtain ⟨A', c', e, hc, _⟩ := OwnL.form ho
    injection e with e1 e2 e3
    subst h0
    obtain rfl : rs = [] := List.eq_nil_of_length_eq_zero hL
    rcases ho.2 with ⟨e, _⟩ | ⟨g, cap, cur, e, _⟩
    · injection e with e1 e2 e3
      subst e1
      subst e3
      obtain ⟨A2, c2, hb⟩ := run_back_nil (P := Try.prog) 4 Try.underlying22 (by kernel_rfl) none 0 0
      exact ⟨none, A2, c2, fun W => run_front_nil (P := Try.prog) 4 Try.underlying22 (by kernel_rfl) W, hb, Lst.nil _ _ _ _, Lst.nil _ _ _ _⟩
    · injection e with e1 e2 e3
      subst e1
      obtain ⟨A2, c2, hb⟩ := run_back_nil (P := Try.prog) 4 Try.underlying22 (by kernel_rfl) (some ⟨g, 0, none⟩) 0 c
      exact ⟨_, A2, c2, fun W => run_front_s (P := Try.prog) 4 Try.underlying22 (by kernel_rfl) g 0 0 c (h := 0) (by omega) W, hb, Lst.nil _ _ _ _, Lst.nil _ _ _ _⟩
  · obtain ⟨b, off, rfl, hb, hr⟩ := hl.2.2 h0
    obtain ⟨A', c', e, hc, _⟩ := OwnL.form ho
    injection e with e1 e2 e3
    have hnc : n ≤ c := by rw [← hL, e3]; exact hc
    have hd : Lst kRec w w.heap.size (some ⟨b, off + h * 4, none⟩) (n - h) (rs.drop h) := by
      refine ⟨by rw [List.length_drop, hL], fun x hx => hl.2.1 x (List.mem_of_mem_drop hx), fun _ => ⟨b, off + h * 4, rfl, hb, fun j v hv => ?_⟩⟩
      have hf : Sl.flat kRec (rs.drop h) = (Sl.flat kRec rs).drop (h * 4) := (flat_drop (k := kRec) rs h (by omega)).symm
      rw [hf, List.getElem?_drop] at hv
      have := hr (h * 4 + j) v hv
      rwa [← Nat.add_assoc] at this
    by_cases hhn : h < c
    · exact ⟨_, _, _, fun W => run_front_s (P := Try.prog) 4 Try.underlying22 (by kernel_rfl) b off n c (h := h) (by omega) W, fun W => run_back_s (P := Try.prog) 4 Try.underlying22 (by kernel_rfl) b off n c (l := h) hh hhn W, lst_take hl h hh, hd⟩
    · obtain rfl : h = n := by omega
      obtain ⟨A2, c2, hb2⟩ := run_back_nil (P := Try.prog) 4 Try.underlying22 (by kernel_rfl) (some ⟨b, off, none⟩) h c
      refine ⟨_, A2, c2, fun W => run_front_s (P := Try.prog) 4 Try.underlying22 (by kernel_rfl) b off h c (h := h) (by omega) W, fun W => by rw [Nat.sub_self]; exact hb2 W, lst_take hl h hh, ?_⟩
      rw [Nat.sub_self, List.drop_of_length_le (by omega)]
      exact Lst.nil _ _ _ _
set_option maxRecDepth 100000 in
set_option maxHeartbeats 4000000 in
theorem grow_any (n : Nat) (w : World) (hn : n ≤ 1048576) :
    Calls Try.prog 34 #[.slice none 0 0, .int .i64 (n : Int)] w fun e w' => ∃ v, e = .returned v ∧ OwnL kRec 26 w' w.heap.size v [] ∧ Below w.heap.size w w' := by
  go_enter Try.func34, Try.ntmps34
  by_cases h0 : n = 0
  · subst h0
    go_wp2_with fail
    go_ret
    exact ⟨_, rfl, OwnL.nil _ _ _ _, Below.refl _ _⟩
  · have h1 : ¬ (n : Int) < 0 := by omega
    have h2 : (n : Int) > 0 := by omega
    obtain ⟨ie, hie, hz, hsz, hby⟩ := info_parts info_kRec
    have hr := fun ty => Lib.run_append_nil_zeros (P := Try.prog) w 22 3 ty 26 ie _ .i64 .i64 Try.underlying22 Try.underlying3 hie hz n (by omega) (by rw [hsz]; decide) (by omega) (by rw [hby]; omega)
    have hge := grownCap_ge w n 0 26
    have hcm : grownCap w n 0 26 ≤ maxLen := grownCap_le_maxLen w n 0 26 (by simp only [maxLen]; omega)
    have hcs : (Builtin.zeroCells (Value.agg (kRec.cells kRec.d).toArray).cells n ++ Builtin.zeroCells (Value.agg (kRec.cells kRec.d).toArray).cells (grownCap w n 0 26 - n)).size = grownCap w n 0 26 * 4 := by
      rw [Array.size_append, size_zeroCells, size_zeroCells, show (Value.agg (kRec.cells kRec.d).toArray).cells.size = 4 from rfl]
      omega
    generalize grownCap w n 0 26 = cap at hr hge hcm hcs
    generalize (Builtin.zeroCells (Value.agg (kRec.cells kRec.d).toArray).cells n ++ Builtin.zeroCells (Value.agg (kRec.cells kRec.d).toArray).cells (cap - n)) = cs at hr hcs
    obtain ⟨w1, hw1⟩ : ∃ w1, w.drew.alloc (.cells cs 26) = w1 := ⟨_, rfl⟩
    have q1 : Blk w1 w.heap.size 26 cs := by rw [← hw1]; exact heap_alloc_new w.drew _
    have b1 : Below w.heap.size w w1 := by rw [← hw1]; exact (Below.refl w.heap.size w).drew.alloc (Nat.le_refl _) _
    rw [hw1] at hr
    clear hw1 hie hz hsz hby
    go_wp2_with (first
      | (refine Held.wpList_run (w := w) rfl (v := .slice none 0 0) (Held.y_slice (S := fun _ => True) rfl (fun W => run_front_nil (P := Try.prog) 4 Try.underlying22 (by kernel_rfl) W) _ trivial) ?_)
      | (at_builtin; refine Rs.wpList_append_ran (w := w) rfl _ _ 22 3 rfl _ _ _ w1 rfl rfl (hr _) ?_)
      | (refine Held.wpList_run (w := w1) rfl (v := .slice (some ⟨w.heap.size, 0, none⟩) 0 cap) (Held.y_slice (S := fun _ => True) rfl (fun W => run_front_s (P := Try.prog) 4 Try.underlying22 (by kernel_rfl) w.heap.size 0 n cap (h := 0) (by omega) W) _ trivial) ?_))
    go_ret
    refine ⟨_, rfl, ⟨rfl, .inr ⟨w.heap.size, cap, cs, rfl, Nat.le_refl _, q1, Nat.zero_le _, hcm, hcs, ?_⟩⟩, b1⟩
    simp [Sl.flat]
end Go.Proofs.Ytbhgonnonhiocaa.Mg
namespace Go.Proofs.Ytbhgonnonhiocaa.Mg
open Go.RowKit Go.Shelf Go.Proofs.Ytbhgonnonhiocaa Mem Held Ct Rc Rs Sl
attribute [local irreducible] wpList wpListIn Calls
def accC (rs rs2 : List R) (k : Nat) : List R := if k = 0 then [] else if k = 1 then rs else rs ++ rs2
def sumC (n n2 k : Nat) : Nat := if k = 0 then 0 else if k = 1 then n else n + n2
set_option maxRecDepth 100000 in
set_option maxHeartbeats 8000000 in
theorem concat_any (B B2 p : Nat) (A A2 : Option Addr) (n c n2 c2 : Nat) (rs rs2 : List R) (w : World) (q : Blk w p 22 #[.slice A n c, .slice A2 n2 c2]) (h : Lst kRec w B A n rs) (h2 : Lst kRec w B2 A2 n2 rs2) (hB : B ≤ w.heap.size) (hB2 : B2 ≤ w.heap.size) (hn : n ≤ 524288) (hn2 : n2 ≤ 524288) :
    Calls Try.prog 23 #[.slice (some ⟨p, 0, none⟩) 2 2] w fun e w' => ∃ v, e = .returned v ∧ OwnL kRec 26 w' w.heap.size v (rs ++ rs2) ∧ Below w.heap.size w w' := by
  have HL := Lib.hid h.1
  have HL2 := Lib.hid h2.1
  have hp := q.lt
  go_enter Try.func23, Try.ntmps23
  go_wp2_with fail
  go_loopw [3, 11] (fun x i wr => ∃ k : Nat, k ≤ 2 ∧ i = .int .i64 k ∧ x = .int .i64 (sumC n n2 k : Int) ∧ Below w.heap.size w wr) (fun _ i _ => 2 - (intOf i).toNat)
  case atStart => exact ⟨0, by omega, rfl, rfl, Below.refl _ _⟩
  case round =>
    obtain ⟨k, hk, rfl, rfl, hst⟩ := hrel
    have q := q.below hst hp
    have c0 := q.cell (i := 0) rfl
    have c1 := q.cell (i := 1) rfl
    rcases (show k = 0 ∨ k = 1 ∨ k = 2 by omega) with rfl | rfl | rfl
    · rw [show sumC n n2 0 = 0 from rfl]
      have g1 : ¬ (n : Int) < 0 := by omega
      have e1 : IntKind.i64.wrap (n : Int) = (n : Int) := by rw [IntKind.wrap_i64]; omega
      go_wp2_with fail
      go_roundw
      case rel => exact ⟨1, by omega, by go_num, rfl, hst⟩
      case measure => simp [intOf]
    · rw [show sumC n n2 1 = n from rfl]
      have g1 : ¬ ((n : Int) + (n2 : Int)) < 0 := by omega
      have e1 : IntKind.i64.wrap ((n : Int) + (n2 : Int)) = (n : Int) + n2 := by rw [IntKind.wrap_i64]; omega
      go_wp2_with fail
      go_roundw
      case rel => exact ⟨2, by omega, by go_num, by show Value.int .i64 ((n : Int) + (n2 : Int)) = Value.int .i64 ((n + n2 : Nat) : Int); rw [Int.natCast_add], hst⟩
      case measure => simp [intOf]
    · rw [show sumC n n2 2 = n + n2 from rfl]
      go_wp2_with fail
      refine (grow_any (n + n2) _ (by omega)).mono ?_
      rintro e w1 ⟨v, rfl, o1, b1⟩
      have q1 := q.after b1
      have d1 := hst.trans (b1.mono hst.size)
      have o1 := OwnL.less o1 hst.size
      clear q b1 hst c0 c1
      go_wp2_with fail
      go_loopw [6, 27] (fun x i wr => ∃ k : Nat, k ≤ 2 ∧ i = .int .i64 k ∧ OwnL kRec 26 wr w.heap.size x (accC rs rs2 k) ∧ Blk wr p 22 #[.slice A n c, .slice A2 n2 c2] ∧ Below w.heap.size w wr) (fun _ i _ => 2 - (intOf i).toNat)
      case atStart => exact ⟨0, by omega, rfl, o1, q1, d1⟩
      case round =>
        clear o1 q1 d1
        obtain ⟨k, hk, rfl, ok, q, hst⟩ := hrel
        have c0 := q.cell (i := 0) rfl
        have c1 := q.cell (i := 1) rfl
        rcases (show k = 0 ∨ k = 1 ∨ k = 2 by omega) with rfl | rfl | rfl
        · have ok : OwnL kRec 26 wr w.heap.size u6 ([]) := ok
          go_wp2_with (at_builtin; refine wpList_append_all (k := kRec) (w := wr) rfl _ _ 22 26 rfl Try.underlying22 _ 32 info_kRec rfl w.heap.size B n c A _ ([]) rs rfl rfl ok (Lst.below h (hst.mono hB)) (by simp; omega) (by omega) hst.size ?_; intro v2 w2 o2 g2 m2)
          have d2 : Below w.heap.size w w2 := hst.grown g2 hst.size (fun r e => (OwnL.lt ok r e).1)
          have q2 := q.grown g2 (fun e => OwnL.ne_blk ok q (by decide) e.symm)
          go_roundw
          case rel => exact ⟨1, by omega, by go_num, o2, q2, d2⟩
          case measure => simp [intOf]
        · have ok : OwnL kRec 26 wr w.heap.size u6 (rs) := ok
          go_wp2_with (at_builtin; refine wpList_append_all (k := kRec) (w := wr) rfl _ _ 22 26 rfl Try.underlying22 _ 32 info_kRec rfl w.heap.size B2 n2 c2 A2 _ (rs) rs2 rfl rfl ok (Lst.below h2 (hst.mono hB2)) (by rw [HL.out]; omega) (by omega) hst.size ?_; intro v2 w2 o2 g2 m2)
          have d2 : Below w.heap.size w w2 := hst.grown g2 hst.size (fun r e => (OwnL.lt ok r e).1)
          have q2 := q.grown g2 (fun e => OwnL.ne_blk ok q (by decide) e.symm)
          go_roundw
          case rel => exact ⟨2, by omega, by go_num, o2, q2, d2⟩
          case measure => simp [intOf]
        · go_wp2_with fail
          go_ret
          exact ⟨_, rfl, ok, hst⟩
end Go.Proofs.Ytbhgonnonhiocaa.Mg
namespace Go.Proofs.Ytbhgonnonhiocaa.Mg
open Go.RowKit Go.Shelf Go.Proofs.Ytbhgonnonhiocaa Mem Held Ct Rc Rs Sl
attribute [local irreducible] wpList wpListIn Calls
theorem info_lists : (Try.prog.info? 22).map (fun i => (i.zero, i.size, i.bytes)) = some (some (.slice none 0 0), 1, 24) := by kernel_rfl
theorem wpList_build_two {ops : Array Oper} {rest : List Oper} {o : Oper} {a : Act} {w : World} {Q : Exit → Act → World → Prop} (hgd : o.guard = none) (x y : Operand) (ho : o.op = .buildSlice 36 2 #[(0, x), (1, y)]) (A A2 : Option Addr) (n c n2 c2 : Nat) (hx : a.eval x = .slice A n c) (hy : a.eval y = .slice A2 n2 c2)
    (h : ∀ w', Blk w' w.heap.size 22 #[.slice A n c, .slice A2 n2 c2] → w.grownBy w' none → wpList Try.prog ops Q rest (a.put o.dst (.slice (some ⟨w.heap.size, 0, none⟩) 2 2)) w') : wpList Try.prog ops Q (o :: rest) a w := by
  obtain ⟨ie, hie, hz, hs, _⟩ := info_parts info_lists
  refine Go.wpList_buildSlice hgd 36 22 2 #[(0, x), (1, y)] ho #[.slice A n c, .slice A2 n2 c2] ie _ Try.underlying36 hie hz (by rw [hs]; omega) (by rw [hs]; omega) ?_ (h _ (heap_alloc_new w _) (World.grownBy_alloc w _ none))
  rw [hs]
  simp only [List.map_toArray, List.map_cons, List.map_nil, hx, hy]
  refine (Great.fill_whole (s := 1) (by omega) [.slice A n c, .slice A2 n2 c2] _ (fun v hv => ?_) (by simp)).trans ?_
  · simp only [List.mem_cons, List.not_mem_nil, or_false] at hv
    rcases hv with rfl | rfl <;> rfl
  · rfl
set_option maxRecDepth 100000 in
set_option maxHeartbeats 8000000 in
theorem split_any (B B2 : Nat) (A A2 : Option Addr) (n c n2 c2 : Nat) (rs rs2 : List R) (seq : Bool) (w : World) (h : Lst kRec w B A n rs) (h2 : Lst kRec w B2 A2 n2 rs2) (hB : B ≤ w.heap.size) (hB2 : B2 ≤ w.heap.size) (hn : n ≤ 524288) (hn2 : n2 ≤ 524288) :
    Calls Try.prog 10 #[.slice A n c, .slice A2 n2 c2, .bool seq] w fun e w' => ∃ v v2, e = .returned (.tuple #[v, v2]) ∧ OwnL kRec 26 w' w.heap.size v ((sortR seq (rs ++ rs2)).take rs.length) ∧ OwnL kRec 26 w' w.heap.size v2 ((sortR seq (rs ++ rs2)).drop rs.length) ∧ Below w.heap.size w w' := by
  have HL := Lib.hid h.1
  have HLS := Lib.hid (show (rs ++ rs2).length = n + n2 by rw [List.length_append, h.1, h2.1])
  have HLT := Lib.hid (show (sortR seq (rs ++ rs2)).length = n + n2 by rw [sortR_length, List.length_append, h.1, h2.1])
  have HW := Lib.hid (show ∀ x ∈ rs ++ rs2, x.wf from fun x hx => (List.mem_append.1 hx).elim (h.2.1 x) (h2.2.1 x))
  have HWS := Lib.hid (show ∀ x ∈ sortR seq (rs ++ rs2), x.wf from fun x hx => HW.out x ((sortR_perm seq (rs ++ rs2)).mem_iff.1 hx))
  go_enter Try.func10, Try.ntmps10
  go_wp2_with (refine wpList_build_two (w := w) rfl _ _ rfl A A2 n c n2 c2 rfl rfl ?_; intro w1 q1 g1)
  have b1 : Below w.heap.size w w1 := (Below.refl _ w).grown g1 (Nat.le_refl _) (by simp)
  refine (concat_any B B2 w.heap.size A A2 n c n2 c2 rs rs2 w1 q1 (Lst.below h (b1.mono hB)) (Lst.below h2 (b1.mono hB2)) (Nat.le_trans hB b1.size) (Nat.le_trans hB2 b1.size) hn hn2).mono ?_
  rintro e w2 ⟨v, rfl, o2, b2⟩
  obtain ⟨A3, n3, c3, rfl, hn3, _⟩ := OwnL.form2 o2
  obtain rfl : n3 = n + n2 := hn3.out.symm.trans HLS.out
  have b2 := b1.trans (b2.mono b1.size)
  clear b1 q1 g1 hn3
  have l2 := OwnL.lst o2 HW.out
  go_wp2_with fail
  refine (sort_any w2.heap.size A3 (n + n2) c3 (rs ++ rs2) seq w2 l2 (Nat.le_refl _) (by omega)).mono ?_
  rintro e w3 ⟨v, rfl, o3, b3⟩
  obtain ⟨A4, n4, c4, rfl, hn4, _⟩ := OwnL.form2 o3
  obtain rfl : n4 = n + n2 := hn4.out.symm.trans HLT.out
  have b3 := b2.trans (b3.mono b2.size)
  have o3 := OwnL.less o3 b2.size
  clear b2 o2 l2 hn4
  obtain ⟨A5, A6, c6, f1, f2, k1, k2⟩ := own_parts o3 HWS.out (show n ≤ n + n2 by omega)
  rw [show n + n2 - n = n2 by omega] at f2 k2
  go_wp2_with fail
  refine wp_region_held (S := fun W => Below w3.heap.size w3 W) (by kernel_rfl) ?_
  change wpAnyH _ _ _ _ _ _ _ _ w3.drew
  have c0_0 := (Below.refl w3.heap.size w3).drew
  refine Held.tk (v := .slice A4 (n + n2) c4) 0 (some 15) rfl (Held.y_move rfl rfl) c0_0 ?_
  simp only [Act.put, Z1, Z2, Z3]
  refine Held.tk (v := .slice A n c) 1 (some 16) rfl (Held.y_move rfl rfl) c0_0 ?_
  simp only [Act.put, Z1, Z2, Z3]
  refine Held.tk (v := .int .i64 (n : Int)) 2 (some 17) rfl (Held.y_len rfl rfl Try.underlying22) c0_0 ?_
  simp only [Act.put, Z1, Z2, Z3]
  refine Held.tk (v := .slice A5 n c4) 3 (some 18) rfl (Held.y_slice rfl f1) c0_0 ?_
  simp only [Act.put, Z1, Z2, Z3]
  refine Held.tk (v := .slice A4 (n + n2) c4) 5 (some 20) rfl (Held.y_move rfl rfl) c0_0 ?_
  simp only [Act.put, Z1, Z2, Z3]
  refine Held.tk (v := .slice A n c) 6 (some 21) rfl (Held.y_move rfl rfl) c0_0 ?_
  simp only [Act.put, Z1, Z2, Z3]
  refine Held.tk (v := .int .i64 (n : Int)) 7 (some 22) rfl (Held.y_len rfl rfl Try.underlying22) c0_0 ?_
  simp only [Act.put, Z1, Z2, Z3]
  refine Held.tk (v := .slice A6 n2 c6) 8 (some 23) rfl (Held.y_slice rfl f2) c0_0 ?_
  simp only [Act.put, Z1, Z2, Z3]
  refine Held.one 4 (by kernel_rfl) ?_
  refine Held.op_call 4 (some 19) 24 #[.slice A5 n c4] rfl rfl rfl rfl (enters_of Try.func24 (by kernel_rfl) rfl) (by simp [Act.eval])
    (clone_any w3.heap.size A5 n c4 _ _ (Lst.below k1 c0_0) c0_0.size (by omega)) ?_
  rintro e w4 ⟨v1, rfl, ov1, b1⟩
  have c0_1 := c0_0.trans (b1.mono c0_0.size)
  refine ⟨_, rfl, c0_1, ?_⟩
  simp only [Act.put, Z1, Z2, Z3]
  refine Held.one 9 (by kernel_rfl) ?_
  refine Held.op_call 9 (some 24) 24 #[.slice A6 n2 c6] rfl rfl rfl rfl (enters_of Try.func24 (by kernel_rfl) rfl) (by simp [Act.eval])
    (clone_any w3.heap.size A6 n2 c6 _ _ (Lst.below k2 c0_1) c0_1.size (by omega)) ?_
  rintro e w5 ⟨v2, rfl, ov2, b2⟩
  have c0_2 := c0_1.trans (b2.mono c0_1.size)
  refine ⟨_, rfl, c0_2, ?_⟩
  simp only [Act.put, Z1, Z2, Z3]
  refine Held.tk (v := v1) 10 (some 6) rfl (Held.y_assign rfl rfl) c0_2 ?_
  simp only [Act.put, Z1, Z2, Z3]
  refine Held.tk (v := v2) 11 (some 7) rfl (Held.y_assign rfl rfl) c0_2 ?_
  simp only [Act.put, Z1, Z2, Z3]
  have p1 := OwnL.less (OwnL.below ov1 b2) (Nat.le_refl _)
  have p2 := OwnL.less ov2 b1.size
  refine wpAnyH_done (by kernel_rfl) ?_ _
  have dz := b3.trans (c0_2.mono b3.size)
  go_wp2_with fail
  go_ret2
  rw [HL.out]
  exact ⟨_, _, rfl, OwnL.less p1 (Nat.le_trans b3.size c0_0.size), OwnL.less p2 (Nat.le_trans b3.size c0_0.size), dz⟩
def wrongTo (seq : Bool) (rs : List R) (k : Nat) : Bool := (List.range k).any fun i => lead seq (rs.getD (i + 1) R0) (rs.getD i R0)
theorem wrongTo_succ (seq : Bool) (rs : List R) (k : Nat) : wrongTo seq rs (k + 1) = (wrongTo seq rs k || lead seq (rs.getD (k + 1) R0) (rs.getD k R0)) := by
  unfold wrongTo
  rw [List.range_succ, List.any_append]
  simp
def srtB (seq : Bool) (rs : List R) : Bool := !wrongTo seq rs (rs.length - 1)
theorem srtB_iff {seq : Bool} {rs : List R} : srtB seq rs = true ↔ Srt seq rs := by
  rw [srt_iff, srtB, Bool.not_eq_true', wrongTo, List.any_eq_false]
  constructor
  · intro h i hi
    have := h i (List.mem_range.2 (by omega))
    simpa using this
  · intro h i hi
    have := h i (by have := List.mem_range.1 hi; omega)
    rw [this]
    simp
set_option maxRecDepth 100000 in
set_option maxHeartbeats 8000000 in
theorem sorted_any (B : Nat) (A : Option Addr) (n c : Nat) (rs : List R) (seq : Bool) (w : World) (h : Lst kRec w B A n rs) (hB : B ≤ w.heap.size) (hn : n ≤ 1073741824) :
    Calls Try.prog 15 #[.slice A n c, .bool seq] w fun e w' => e = .returned (.bool (srtB seq rs)) ∧ Below w.heap.size w w' := by
  have HL := Lib.hid h.1
  go_enter Try.func15, Try.ntmps15
  have hsub : IntKind.i64.wrap ((n : Int) - 1) = (n : Int) - 1 := by rw [IntKind.wrap_i64]; omega
  go_wp2_with fail
  go_loopw [5, 10] (fun x i wr => ∃ k : Nat, k ≤ n - 1 ∧ i = .int .i64 k ∧ x = .int .u64 (oneI (wrongTo seq rs k)) ∧ Below w.heap.size w wr) (fun _ i _ => n - (intOf i).toNat)
  case atStart => exact ⟨0, by omega, rfl, rfl, Below.refl _ _⟩
  case round =>
    obtain ⟨k, hk, rfl, rfl, hst⟩ := hrel
    by_cases hlt1 : k + 1 < n
    · have hlt : k < n := by omega
      have hlt' : (k : Int) < (n : Int) - 1 := by omega
      have hr := Lst.below h (hst.mono hB)
      obtain ⟨b, off, rfl, hb, hx⟩ := hr.at_ hlt
      obtain ⟨b', off', e1, _, hy⟩ := hr.at_ hlt1
      injection e1 with e1
      injection e1 with e1 e2
      subst e1
      subst e2
      have hx : wr.rangeAt b (off + k * 4) (rs.getD k R0).cells := hx
      have hy : wr.rangeAt b (off + (k + 1) * 4) (rs.getD (k + 1) R0).cells := hy
      have wx := h.2.1 _ (getD_mem (rs := rs) (i := k) (by have := HL.out; omega))
      have wy := h.2.1 _ (getD_mem (rs := rs) (i := k + 1) (by have := HL.out; omega))
      have HWR := Lib.hid (show bits .or .u64 (oneI (wrongTo seq rs k)) (oneI (lead seq (rs.getD (k + 1) R0) (rs.getD k R0))) = oneI (wrongTo seq rs (k + 1)) by rw [wrongTo_succ, or_one])
      have HP1 := Lib.hid (show IntKind.i64.wrap ((k : Int) + 1) = ((k + 1 : Nat) : Int) by rw [IntKind.wrap_i64]; omega)
      have hbw : b < wr.heap.size := Nat.lt_of_lt_of_le hb (Nat.le_trans hB hst.size)
      generalize rs.getD k R0 = x at hx wx HWR
      generalize rs.getD (k + 1) R0 = y at hy wy HWR
      clear hr hsub
      go_wp2_with fail
      refine wp_region_held (S := fun W => Below wr.heap.size wr W) (by kernel_rfl) ?_
      change wpAnyH _ _ _ _ _ _ _ _ wr.drew
      have c0_0 := (Below.refl wr.heap.size wr).drew
      refine Held.tk (v := .int .u64 (oneI (wrongTo seq rs k))) 0 (some 13) rfl (Held.y_move rfl rfl) c0_0 ?_
      simp only [Act.put, Z1, Z2, Z3]
      refine Held.tk (v := .slice (some ⟨b, off, none⟩) n c) 1 (some 14) rfl (Held.y_move rfl rfl) c0_0 ?_
      simp only [Act.put, Z1, Z2, Z3]
      refine Held.tk (v := .int .i64 (k : Int)) 2 (some 15) rfl (Held.y_move rfl rfl) c0_0 ?_
      simp only [Act.put, Z1, Z2, Z3]
      refine Held.tk (v := .int .i64 ((k + 1 : Nat) : Int)) 3 (some 16) rfl (Held.y_int rfl rfl rfl (Held.run_add 3 .i64 HP1.out)) c0_0 ?_
      simp only [Act.put, Z1, Z2, Z3]
      refine Held.tk (v := .pointer (some ⟨b, off + (k + 1) * 4, none⟩)) 4 (some 17) rfl (Held.y_addr rfl rfl rfl (run_addr_of 22 26 b off n c (k + 1) 4 .i64 Try.underlying22 (by kernel_rfl) hlt1)) c0_0 ?_
      simp only [Act.put, Z1, Z2, Z3]
      refine Held.tk (v := .agg #[.bool y.d, .int .i64 y.k, .int .i64 y.v, .int .i64 y.s]) 5 (some 18) rfl (y_load_range (n := 4) (cs := y.cells) rfl rfl Try.underlying26 rfl (by kernel_rfl) rfl (fun W hW => range_below hy hW hbw)) c0_0 ?_
      simp only [Act.put, Z1, Z2, Z3]
      refine Held.tk (v := .slice (some ⟨b, off, none⟩) n c) 6 (some 19) rfl (Held.y_move rfl rfl) c0_0 ?_
      simp only [Act.put, Z1, Z2, Z3]
      refine Held.tk (v := .int .i64 (k : Int)) 7 (some 20) rfl (Held.y_move rfl rfl) c0_0 ?_
      simp only [Act.put, Z1, Z2, Z3]
      refine Held.tk (v := .pointer (some ⟨b, off + k * 4, none⟩)) 8 (some 21) rfl (Held.y_addr rfl rfl rfl (run_addr_of 22 26 b off n c k 4 .i64 Try.underlying22 (by kernel_rfl) hlt)) c0_0 ?_
      simp only [Act.put, Z1, Z2, Z3]
      refine Held.tk (v := .agg #[.bool x.d, .int .i64 x.k, .int .i64 x.v, .int .i64 x.s]) 9 (some 22) rfl (y_load_range (n := 4) (cs := x.cells) rfl rfl Try.underlying26 rfl (by kernel_rfl) rfl (fun W hW => range_below hx hW hbw)) c0_0 ?_
      simp only [Act.put, Z1, Z2, Z3]
      refine Held.tk (v := .bool seq) 10 (some 23) rfl (Held.y_move rfl rfl) c0_0 ?_
      simp only [Act.put, Z1, Z2, Z3]
      refine Held.one 11 (by kernel_rfl) ?_
      refine Held.op_call 11 (some 24) 30 #[.agg #[.bool y.d, .int .i64 y.k, .int .i64 y.v, .int .i64 y.s], .agg #[.bool x.d, .int .i64 x.k, .int .i64 x.v, .int .i64 x.s], .bool seq] rfl rfl rfl rfl (enters_of Try.func30 (by kernel_rfl) rfl) (by simp [Act.eval])
        (leads_any seq y x wy wx _) ?_
      rintro e w1 ⟨rfl, b1⟩
      have c0_1 := c0_0.trans (b1.mono c0_0.size)
      refine ⟨_, rfl, c0_1, ?_⟩
      simp only [Act.put, Z1, Z2, Z3]
      refine Held.tk (v := .int .u64 (oneI (wrongTo seq rs (k + 1)))) 12 (some 25) rfl (Held.y_int rfl rfl rfl (Held.run_bitop (by simp) 43 .u64 HWR.out)) c0_1 ?_
      simp only [Act.put, Z1, Z2, Z3]
      refine Held.tk (v := .int .u64 (oneI (wrongTo seq rs (k + 1)))) 13 (some 5) rfl (Held.y_assign rfl rfl) c0_1 ?_
      simp only [Act.put, Z1, Z2, Z3]
      refine wpAnyH_done (by kernel_rfl) ?_ _
      have dz := hst.trans (c0_1.mono hst.size)
      go_wp2_with fail
      go_roundw
      case rel => exact ⟨k + 1, by omega, by go_num, rfl, dz⟩
      case measure => simp [intOf]; omega
    · have hkn : k = n - 1 := by omega
      have hnlt : ¬ (k : Int) < (n : Int) - 1 := by omega
      have HS := Lib.hid (show srtB seq rs = !wrongTo seq rs k by rw [srtB, HL.out, hkn])
      cases hw : wrongTo seq rs k with
      | false =>
        rw [hw] at HS
        rw [show oneI false = 0 from rfl]
        clear hsub
        go_wp2_with fail
        go_ret
        exact ⟨Mem.ret_bool HS.out.symm, hst⟩
      | true =>
        rw [hw] at HS
        rw [show oneI true = 1 from rfl]
        clear hsub
        go_wp2_with fail
        go_ret
        exact ⟨Mem.ret_bool HS.out.symm, hst⟩
end Go.Proofs.Ytbhgonnonhiocaa.Mg
namespace Go.Proofs.Ytbhgonnonhiocaa.Rc
open Go.RowKit Go.Shelf Go.Proofs.Ytbhgonnonhiocaa Mem Help Go.Proofs.Ytbhgonnonhiocaa.Sum Po Ky Ct Go.Proofs.Ytbhgonnonhiocaa.Bit Held Go.Proofs.Ytbhgonnonhiocaa.Range
attribute [local go_sem] Oper.semAt_some
attribute [local irreducible] wpList wpListIn Calls
def fld (zs : List Int) (i : Nat) : Int := val ((zs.drop (8 * i)).take 8)
def noneC : Array Value := #[.bool false, .int .i64 0, .int .i64 0, .int .i64 0]
def flds (zs : List Int) : List Int := [fld zs 0, fld zs 1, fld zs 2, fld zs 3]
def TInv (w : World) (gr gn : Nat) (zs : List Int) (pre : List Nat) (W : World) : Prop :=
  Row W gn 63 .u64 (blend (flds zs) (List.replicate 4 0) pre.length) ∧ Blk W gr 26 noneC ∧ Below w.heap.size w W
theorem TInv.own (w : World) (gr gn : Nat) (zs : List Int) {B : Nat} (hB : w.heap.size ≤ B) : OwnFrom B (TInv w gr gn zs) := fun pre W W' row ⟨h1, h2, h4⟩ hg hr =>
  ⟨row_own h1 hg hr, blk_own h2 hg hr, h4.grown hg h4.size (fun r e => Nat.le_trans hB (hr r e).1)⟩
end Go.Proofs.Ytbhgonnonhiocaa.Rc
namespace Go.Proofs.Ytbhgonnonhiocaa.Rc
open Go.RowKit Go.Shelf Go.Proofs.Ytbhgonnonhiocaa Mem Help Go.Proofs.Ytbhgonnonhiocaa.Sum Po Ky Held
attribute [local irreducible] wpList wpListIn Calls
end Go.Proofs.Ytbhgonnonhiocaa.Rc
namespace Go.Proofs.Ytbhgonnonhiocaa.Mem
open Go.RowKit
def Flat (A : Option Addr) (cap : Nat) : Prop := cap = 0 ∨ A = none ∨ ∃ b off, A = some ⟨b, off, none⟩
theorem Flat.head (b off cap : Nat) : Flat (some ⟨b, off, none⟩) cap := .inr (.inr ⟨b, off, rfl⟩)
section
variable {P : Program} {t e : TypeId} {A : Option Addr} {n cap : Nat}
end
theorem Own.flat {w : World} {base : Nat} {t : TypeId} {k : IntKind} {A : Option Addr} {n c : Nat} {zs : List Int} (h : Own w base t k (.slice A n c) zs) : Flat A c := by
  rcases h.2.2 with ⟨hv, _⟩ | ⟨g, cap, cur, hv, _⟩
  · injection hv with e1; exact .inr (.inl e1)
  · injection hv with e1; exact .inr (.inr ⟨g, 0, e1⟩)
end Go.Proofs.Ytbhgonnonhiocaa.Mem
namespace Go.Proofs.Ytbhgonnonhiocaa.Rc
open Go.RowKit Go.Shelf Go.Proofs.Ytbhgonnonhiocaa Mem Help Go.Proofs.Ytbhgonnonhiocaa.Sum Po Ky Ct Go.Proofs.Ytbhgonnonhiocaa.Bit Held
attribute [local irreducible] wpList wpListIn Calls
end Go.Proofs.Ytbhgonnonhiocaa.Rc
namespace Go.Proofs.Ytbhgonnonhiocaa.Mg
open Go.RowKit Go.Shelf Go.Proofs.Ytbhgonnonhiocaa Mem Held Ct Rc Rs Sl
attribute [local irreducible] wpList wpListIn Calls
section
variable {α : Type} {k : St α} {P : Program} {ops : Array Oper} {o : Oper} {a : Act} {w : World} {Q : Exit → Act → World → Prop}
end
end Go.Proofs.Ytbhgonnonhiocaa.Mg
namespace Go.Proofs.Ytbhgonnonhiocaa.Mg
open Go.RowKit Go.Shelf Go.Proofs.Ytbhgonnonhiocaa Mem Held Ct Rc Rs Sl
attribute [local irreducible] wpList wpListIn Calls
theorem wpList_build_recL {ops : Array Oper} {rest : List Oper} {o : Oper} {a : Act} {w : World} {Q : Exit → Act → World → Prop} (hgd : o.guard = none) (y : Operand) (ho : o.op = .buildSlice 22 1 #[(0, y)]) (f : R) (hy : a.eval y = .agg #[.bool f.d, .int .i64 f.k, .int .i64 f.v, .int .i64 f.s]) (hf : f.wf)
    (h : ∀ w', Lst kRec w' w'.heap.size (some ⟨w.heap.size, 0, none⟩) 1 [f] → w.grownBy w' none → wpList Try.prog ops Q rest (a.put o.dst (.slice (some ⟨w.heap.size, 0, none⟩) 1 1)) w') : wpList Try.prog ops Q (o :: rest) a w :=
  wpList_build_rec hgd y ho f hy fun w' q g _ => h w' (lst_whole (k := kRec) q rfl (fun y hy => by rw [List.mem_singleton.1 hy]; exact hf)) g
set_option maxRecDepth 100000 in
set_option maxHeartbeats 8000000 in
theorem awake14_any (w : World) : Calls Try.prog 8 #[] w fun e w' => e = .returned (.bool true) ∧ Below w.heap.size w w' := by
  go_enter Try.func8, Try.ntmps8
  go_wp2_with (first
    | (refine wpList_build_blk rfl 26 #[(1, .const (.int .i64 3))] rfl #[.bool false, .int .i64 3, .int .i64 0, .int .i64 0] (by kernel_rfl) ?_)
    | (refine wpList_build_blk rfl 26 #[(1, .const (.int .i64 1))] rfl #[.bool false, .int .i64 1, .int .i64 0, .int .i64 0] (by kernel_rfl) ?_)
    | (refine wpList_build_recL (w := w) rfl _ rfl ⟨false, 3, 0, 0⟩ rfl ⟨rfl, rfl, rfl⟩ ?_; intro w1 l1 g1)
    | (refine wpList_build_recL (w := w1) rfl _ rfl ⟨false, 1, 0, 0⟩ rfl ⟨rfl, rfl, rfl⟩ ?_; intro w2 l2 g2))
  have b1 : Below w.heap.size w w1 := (Below.refl _ w).grown g1 (Nat.le_refl _) (by simp)
  have b2 : Below w1.heap.size w1 w2 := (Below.refl _ w1).grown g2 (Nat.le_refl _) (by simp)
  refine (split_any w1.heap.size w2.heap.size _ _ 1 1 1 1 _ _ true w2 (Lst.below l1 b2) l2 b2.size (Nat.le_refl _) (by omega) (by omega)).mono ?_
  rintro e w3 ⟨v, v2, rfl, o1, o2, b3⟩
  have b3 := (b1.trans (b2.mono b1.size)).trans (b3.mono (Nat.le_trans b1.size b2.size))
  have e1 : (sortR true ([⟨false, 3, 0, 0⟩] ++ [⟨false, 1, 0, 0⟩])).take [(⟨false, 3, 0, 0⟩ : R)].length = [⟨false, 1, 0, 0⟩] := by decide +kernel
  have e2 : (sortR true ([⟨false, 3, 0, 0⟩] ++ [⟨false, 1, 0, 0⟩])).drop [(⟨false, 3, 0, 0⟩ : R)].length = [⟨false, 3, 0, 0⟩] := by decide +kernel
  rw [e1] at o1
  rw [e2] at o2
  obtain ⟨A, c, rfl, _⟩ := OwnL.form o1
  obtain ⟨A2, c2, rfl, _⟩ := OwnL.form o2
  obtain ⟨b, off, rfl, _, hx⟩ := (OwnL.lst o1 (fun y hy => by rw [List.mem_singleton.1 hy]; exact ⟨rfl, rfl, rfl⟩)).at_ (i := 0) (by decide)
  obtain ⟨b', off', rfl, _, hy⟩ := (OwnL.lst o2 (fun y hy => by rw [List.mem_singleton.1 hy]; exact ⟨rfl, rfl, rfl⟩)).at_ (i := 0) (by decide)
  have cx : w3.cell? ⟨b, off + 1, none⟩ = some (.int .i64 1) := hx 1 _ rfl
  have cy : w3.cell? ⟨b', off' + 1, none⟩ = some (.int .i64 3) := hy 1 _ rfl
  clear hx hy o1 o2 e1 e2 l1 l2
  go_wp2_with (first
    | (refine Held.wpList_run (w := w3) rfl (v := .pointer (some ⟨b, off + 0 * 4, none⟩)) (Held.y_addr (S := fun _ => True) rfl rfl rfl (run_addr_of 22 26 b off 1 c 0 4 .i64 Try.underlying22 (by kernel_rfl) (by omega)) _ trivial) ?_)
    | (refine Held.wpList_run (w := w3) rfl (v := .pointer (some ⟨b', off' + 0 * 4, none⟩)) (Held.y_addr (S := fun _ => True) rfl rfl rfl (run_addr_of 22 26 b' off' 1 c2 0 4 .i64 Try.underlying22 (by kernel_rfl) (by omega)) _ trivial) ?_))
  go_ret
  exact ⟨rfl, b3⟩
end Go.Proofs.Ytbhgonnonhiocaa.Mg
namespace Go.Proofs.Ytbhgonnonhiocaa.Bi
open Go.RowKit Go.Proofs.Ytbhgonnonhiocaa
theorem high_lt {d q a : Nat} (hd : 0 < d) (ha : a < d * (2 * q)) (hb : a / d % 2 = 0) : a + d < d * (2 * q) := by
  have h1 : a / d < 2 * q := Nat.div_lt_of_lt_mul ha
  have h2 : a < d * (a / d + 1) := Nat.lt_mul_div_succ a hd
  have h3 : a / d + 2 ≤ 2 * q := by omega
  have h4 : d * (a / d + 2) ≤ d * (2 * q) := Nat.mul_le_mul_left d h3
  have h5 : d * (a / d + 2) = d * (a / d + 1) + d := by rw [show a / d + 2 = (a / d + 1) + 1 by omega, Nat.mul_add d (a / d + 1) 1, Nat.mul_one]
  omega
theorem pow_split {S t : Nat} (h1 : 1 ≤ t) (h2 : t ≤ S) : 2 ^ S = 2 ^ (t - 1) * (2 * 2 ^ (S - t)) := by
  rw [← Nat.mul_assoc, show 2 ^ (t - 1) * 2 = 2 ^ t by rw [← Nat.pow_succ]; congr 1; omega, ← Nat.pow_add]
  congr 1; omega
theorem mem_firsts {d n a : Nat} : a ∈ Net.firsts d n ↔ a < n ∧ a / d % 2 = 0 := by
  unfold Net.firsts
  rw [List.mem_filter, List.mem_range]
  simp
theorem pair_lt {S t a : Nat} (h1 : 1 ≤ t) (h2 : t ≤ S) (ha : a ∈ Net.firsts (2 ^ (t - 1)) (2 ^ S)) : a + 2 ^ (t - 1) < 2 ^ S := by
  obtain ⟨h3, h4⟩ := mem_firsts.1 ha
  rw [pow_split h1 h2] at h3 ⊢
  exact high_lt (Nat.two_pow_pos _) h3 h4
theorem pairs_pow {S t : Nat} (h : S ≤ 16) : pairsOf (2 ^ S) t true = Net.firsts (2 ^ (t - 1)) (2 ^ S) := by
  unfold pairsOf
  rw [if_pos rfl, two_nat, Int.toNat_natCast]
theorem xsOf_get (l : List Nat) (i : Nat) : (xsOf l).getD i 0 = ((l.getD i 0 : Nat) : Int) := by
  unfold xsOf
  rw [List.getD_eq_getElem?_getD, List.getD_eq_getElem?_getD, List.getElem?_map]
  cases l[i]? <;> rfl
theorem getD_mem {l : List Nat} {i : Nat} (hi : i < l.length) : l.getD i 0 ∈ l := by
  rw [List.getD_eq_getElem?_getD, List.getElem?_eq_getElem hi]
  exact List.getElem_mem hi
def fn (l : List Int) (i : Nat) : Int := l.getD i 0
def Behind (f0 : Nat → Int) (r : Nat) (l : List Int) : Prop := ∃ s t, (t < s ∨ (s = 0 ∧ t = 0)) ∧ r + t = tri s ∧ Net.steps (Net.ups s) t (fn l) = Net.stages s f0
theorem behind_start (l : List Int) : Behind (fn l) 0 l := ⟨0, 0, .inr ⟨rfl, rfl⟩, rfl, rfl⟩
theorem behind_round {f0 : Nat → Int} {r S s t n : Nat} {l : List Int} (h : Behind f0 r l) (hr : Stp S (r : Int) s t) (hl : l.length = n) (hn : n = 2 ^ S) :
    Behind f0 (r + 1) ((Net.firsts (2 ^ (t - 1)) n).foldl (Net.sw (2 ^ (t - 1)) (Net.ups s)) l) := by
  obtain ⟨t1, ts, sS, he⟩ := hr
  have hst : Net.steps (Net.ups s) t (fn l) = Net.stages s f0 := by
    obtain ⟨s', t', hor, e1, e2⟩ := h
    obtain ⟨q, rfl⟩ : ∃ q, s = q + 1 := ⟨s - 1, by omega⟩
    simp only [Nat.add_sub_cancel] at he
    have he' : r + t = tri (q + 1) := by rw [tri_succ]; omega
    rcases hor with h1 | ⟨rfl, rfl⟩
    · rcases Nat.eq_zero_or_pos t' with h0 | h0
      · subst h0
        have hq : s' = q := by
          rcases Nat.lt_trichotomy s' q with c | c | c
          · have := tri_mono (show s' + 1 ≤ q by omega); rw [tri_succ] at this; omega
          · exact c
          · have := tri_mono (show q + 1 ≤ s' by omega); omega
        subst hq
        have ht : t = s' + 1 := by rw [tri_succ] at he'; omega
        subst ht
        change fn l = _ at e2
        rw [e2]
        rfl
      · have := (Stp.mk (S := max S s') (by omega : 1 ≤ t') (by omega : t' ≤ s') (by omega) (show (r : Int) = ((tri (s' - 1) + (s' - t') : Nat) : Int) by
          obtain ⟨q', rfl⟩ : ∃ q, s' = q + 1 := ⟨s' - 1, by omega⟩
          simp only [Nat.add_sub_cancel]
          rw [tri_succ] at e1; omega) : Stp (max S s') (r : Int) s' t').unique (Stp.mk (S := max S s') t1 ts (by omega) (by simpa using he))
        obtain ⟨rfl, rfl⟩ := this
        exact e2
    · have h00 : r = 0 := by rw [tri_zero] at e1; omega
      subst h00
      have hq : q = 0 := by
        rcases Nat.eq_zero_or_pos q with c | c
        · exact c
        · have := tri_mono (show 1 ≤ q from c)
          rw [show tri 1 = 1 from rfl] at this
          rw [tri_succ] at he'
          omega
      subst hq
      have ht : t = 1 := by omega
      subst ht
      change fn l = _ at e2
      rw [e2]
      rfl
  refine ⟨s, t - 1, .inl (by omega), ?_, ?_⟩
  · obtain ⟨q, rfl⟩ : ∃ q, s = q + 1 := ⟨s - 1, by omega⟩
    simp only [Nat.add_sub_cancel] at he
    rw [tri_succ]; omega
  · obtain ⟨t', rfl⟩ : ∃ t', t = t' + 1 := ⟨t - 1, by omega⟩
    rw [← hst]
    show _ = Net.steps (Net.ups s) t' (Net.step (2 ^ t') (Net.ups s) (fn l))
    simp only [Nat.add_sub_cancel]
    congr 1
    funext x
    have hd : 0 < 2 ^ t' := Nat.two_pow_pos _
    obtain ⟨_, h2⟩ := Net.round_to (d := 2 ^ t') (n := n) (Net.ups s) hd hl (fun a ha hb => by
      subst hn
      exact pair_lt t1 (by omega) (mem_firsts.2 ⟨ha, hb⟩)) n (Nat.le_refl n)
    show List.getD _ x 0 = _
    rw [h2 x]
    have hz : ∀ y, n ≤ y → fn l y = 0 := fun y hy => by unfold fn; rw [List.getD_eq_getElem?_getD, List.getElem?_eq_none (by omega)]; rfl
    by_cases c : Net.lead (2 ^ t') x < n
    · rw [if_pos c]; rfl
    · rw [if_neg c]
      have hle := Net.lead_le (2 ^ t') x
      have e0 : l.getD x 0 = 0 := hz x (by omega)
      rw [e0]
      unfold Net.step
      by_cases hb : x / 2 ^ t' % 2 = 0
      · rw [if_pos hb, hz x (by omega), hz (x + 2 ^ t') (by omega)]; split <;> rfl
      · rw [if_neg hb, hz x (by omega)]
        have : Net.lead (2 ^ t') x = x - 2 ^ t' := by unfold Net.lead; rw [if_neg hb]
        rw [hz (x - 2 ^ t') (by omega)]; split <;> rfl
theorem behind_end {f0 : Nat → Int} {S : Nat} {l : List Int} (h : Behind f0 (tri S) l) {x y : Nat} (hxy : x ≤ y) (hy : y < 2 ^ S) : l.getD x 0 ≤ l.getD y 0 := by
  obtain ⟨s, t, hor, e1, e2⟩ := h
  have hs : s = S ∧ t = 0 := by
    rcases hor with h1 | ⟨rfl, rfl⟩
    · obtain ⟨q, rfl⟩ : ∃ q, s = q + 1 := ⟨s - 1, by omega⟩
      have e3 := tri_succ q
      rcases Nat.lt_trichotomy (q + 1) S with c | c | c
      · have := tri_mono (show q + 1 + 1 ≤ S by omega); rw [tri_succ] at this; omega
      · subst c; exact ⟨rfl, by omega⟩
      · have := tri_mono (show S ≤ q by omega); omega
    · rcases Nat.eq_zero_or_pos S with c | c
      · exact ⟨c.symm, rfl⟩
      · have := tri_mono (show 1 ≤ S from c)
        rw [show tri 1 = 1 from rfl] at this
        rw [tri_zero] at e1; omega
  obtain ⟨rfl, rfl⟩ := hs
  change fn l = _ at e2
  have h1 : l.getD x 0 = Net.stages s f0 x := congrFun e2 x
  have h2 : l.getD y 0 = Net.stages s f0 y := congrFun e2 y
  rw [h1, h2]
  exact Net.stages_rise s f0 hxy hy
end Go.Proofs.Ytbhgonnonhiocaa.Bi
