/-
  Package merge's Sort by its contract: a list of the call's own, as the document sorts.
  The library's slices.Grow of no records and slices.Concat of two lists of records, by their contracts.
  The document's own ahead and Sort (dominoref14), by their contracts.
  Package dominoplay's program that adds, by its contract.
  A round's pairs as plain lists: how many they are, which places they have, each in one pair; what the rounds, one behind the other, make of a list: no program here.
-/
import Derived.Test.YtlinmcgmkpkpaaaDoorB9
import Derived.Test.YtlinmcgmkpkpaaaDoorB1
import Derived.Test.YtlinmcgmkpkpaaaDoorB6
import Derived.Test.YtlinmcgmkpkpaaaDoorB5
import Derived.Test.YtlinmcgmkpkpaaaDoorB7
set_option linter.unusedVariables false
namespace Go.Proofs.YtlinmcgmkpkpaaaDoor.Mg
open Go.RowKit Go.Shelf Go.Proofs.YtlinmcgmkpkpaaaDoor Mem Held Go.Proofs.YtlinmcgmkpkpaaaDoor.Range Ct Rc Rs Sl
attribute [local go_sem] Oper.semAt_some
attribute [local irreducible] wpList wpListIn Calls
def mark (D : Nat) : Deferred := { target := .collected D, args := #[] }
theorem leaves_marks {F : Fence} {n : Nat} {P : Program} {fn : Func} {tmps : Array Value} {Rz : Ending → World → Prop} {b0 : Nat} (J : World → Prop) (hJ : ∀ W D, J W → b0 ≤ D → W.heap[D]? = some (.deferred (some [])) → J (W.putObj D (.deferred none))) :
    ∀ (Ds : List Nat) (W : World), Ds.Nodup → (∀ D ∈ Ds, W.heap[D]? = some (.deferred (some [])) ∧ b0 ≤ D) → J W → (∀ W', J W' → LeavesInM F n P fn tmps Rz [] .returning W') → LeavesInM F n P fn tmps Rz (Ds.map mark) .returning W
  | [], W, _, _, hW, h => h W hW
  | D :: Ds, W, hn, hD, hW, h => by
    obtain ⟨h1, h2⟩ := hD D (by simp)
    obtain ⟨hn1, hn2⟩ := List.nodup_cons.1 hn
    refine ⟨by simp, .inl ⟨D, _, rfl, run_takeDeferred h1, ?_⟩⟩
    refine leaves_marks J hJ Ds _ hn2 (fun D' h' => ⟨(World.putObj_heap_other (fun e => hn1 (by subst e; exact h'))).trans (hD D' (by simp [h'])).1, (hD D' (by simp [h'])).2⟩) (hJ W D hW h2 h1) h
section
variable {α : Type} {k : St α} {t : TypeId} {w w' : World} {base n c : Nat} {A : Option Addr} {v : Value} {xs : List α}
theorem own_at0 (h : OwnL k t w base (.slice A n c) xs) (h0 : 0 < n) : ∃ g, A = some ⟨g, 0, none⟩ ∧ base ≤ g ∧ g < w.heap.size ∧ ∃ cur, w.heap[g]? = some (.cells cur t (0, 0)) := by
  rcases h.2 with ⟨e, hn⟩ | ⟨g, cap, cur, e, hb, hg, _⟩
  · injection e with e1 e2 e3
    omega
  · injection e with e1 e2 e3
    exact ⟨g, e1, hb, (Array.getElem?_eq_some_iff.1 hg).1, cur, hg⟩
end
theorem own_new {α : Type} {k : St α} {t : TypeId} {w w' : World} {base : Nat} {v : Value} {xs : List α} {row : Option Nat} (h : OwnL k t w base v xs) (hg : w.grownBy w' row) (hr : ∀ r, row = some r → ∀ b, v.ownBlock = some b → b ≠ r) : OwnL k t w' base v xs := by
  refine OwnL.kept h hg ?_
  cases hv : v.ownBlock with
  | none => exact .inl rfl
  | some b => exact .inr (fun e => hr b e.symm b hv rfl)
theorem own_cells {α : Type} {k : St α} {t : TypeId} {w : World} {base : Nat} {v : Value} {xs : List α} (h : OwnL k t w base v xs) {b : Nat} (e : v.ownBlock = some b) : ∃ cs, w.heap[b]? = some (.cells cs t (0, 0)) := by
  rcases h.2 with ⟨rfl, _⟩ | ⟨g', cap, cur, rfl, _, hg, _⟩
  · cases e
  · have e : some g' = some b := e
    injection e with e
    subst e
    exact ⟨cur, hg⟩
structure SI (w : World) (lb nb : Nat) (V : Value) (n : Nat) (seq : Bool) (Ds : List Nat) (xs : List R) (W : World) : Prop where
  own : OwnL kRec 51 W w.heap.size V xs
  lst : Blk W lb 48 #[V]
  num : Blk W nb 3 #[.int .i64 (n : Int)]
  sq : Blk W w.heap.size 4 #[.bool seq]
  marks : ∀ D ∈ Ds, W.heap[D]? = some (.deferred (some [])) ∧ w.heap.size ≤ D
  below : Below w.heap.size w W
theorem SI.grown {w : World} {lb nb : Nat} {V : Value} {n : Nat} {seq : Bool} {Ds : List Nat} {xs ys : List R} {W W' : World} {row : Option Nat} (h : SI w lb nb V n seq Ds xs W) (hg : W.grownBy W' row) (ho : OwnL kRec 51 W' w.heap.size V ys)
    (h1 : some lb ≠ row) (h2 : some nb ≠ row) (h3 : some w.heap.size ≠ row) (h4 : ∀ D ∈ Ds, some D ≠ row) (h5 : ∀ r, row = some r → w.heap.size ≤ r) : SI w lb nb V n seq Ds ys W' :=
  ⟨ho, h.lst.grown hg h1, h.num.grown hg h2, h.sq.grown hg h3, fun D hD => ⟨(hg.block D (Array.getElem?_eq_some_iff.1 (h.marks D hD).1).1 (h4 D hD)).trans (h.marks D hD).1, (h.marks D hD).2⟩, h.below.grown hg h.below.size h5⟩
theorem SI.far {w : World} {lb nb : Nat} {V : Value} {n : Nat} {seq : Bool} {Ds : List Nat} {xs : List R} {W W' : World} {row : Option Nat} {B : Nat} (h : SI w lb nb V n seq Ds xs W) (hg : W.grownBy W' row) (hr : ∀ r, row = some r → B ≤ r)
    (b1 : lb < B) (b2 : nb < B) (b3 : w.heap.size < B) (b4 : ∀ D ∈ Ds, D < B) (b5 : ∀ b, V.ownBlock = some b → b < B) : SI w lb nb V n seq Ds xs W' := by
  have ne : ∀ b, b < B → some b ≠ row := fun b hb e => by have := hr b e.symm; omega
  refine h.grown hg (h.own.kept hg ?_) (ne _ b1) (ne _ b2) (ne _ b3) (fun D hD => ne _ (b4 D hD)) (fun r e => by have := hr r e; omega)
  cases hv : V.ownBlock with
  | none => exact .inl rfl
  | some b => exact .inr (ne b (b5 b hv))
set_option maxRecDepth 100000 in
set_option maxHeartbeats 8000000 in
theorem sort_any (B : Nat) (A : Option Addr) (n c : Nat) (rs : List R) (seq : Bool) (w : World) (h : Lst kRec w B A n rs) (hB : B ≤ w.heap.size) (hn : n ≤ 1048576) :
    Calls Tryd.prog 58 #[.slice A n c, .bool seq] w fun e w' => ∃ v, e = .returned v ∧ OwnL kRec 51 w' w.heap.size v (sortR seq rs) ∧ Below w.heap.size w w' := by
  have HL := Lib.hid h.1
  have HW := Lib.hid h.2.1
  have HO := Lib.hid (show oetR seq n rs = sortR seq rs by rw [← oet_is, h.1])
  refine (callsIn_wide (n := 3)).1 ?_
  refine callsIn_of_wp_marks Tryd.func58 rfl trivial ?_ rfl
  simp only [Tryd.ntmps58, List.size_toArray, List.length_cons, List.length_nil, Nat.reduceAdd, Nat.reduceSub, Array.replicate_succ, Array.replicate_zero, List.push_toArray, List.append_toArray, List.nil_append, List.cons_append]
  refine wpIn_wide.2 ?_
  go_wp2_with (refine Held.wpList_box_cell (w := w) rfl 4 _ rfl (.bool seq) rfl rfl ?_; intro w1 q1 g1 z1)
  refine wp_scope_straight ?_
  have b1 : Below w.heap.size w w1 := (Below.refl _ w).grown g1 (Nat.le_refl _) (by simp)
  go_wp2_with fail
  refine (clone_any B A n c rs w1 (Lst.below h (b1.mono hB)) (Nat.le_trans hB b1.size) hn).mono ?_
  rintro e w2 ⟨v, rfl, o2, b2⟩
  obtain ⟨A', n', c', rfl, hn', _⟩ := OwnL.form2 o2
  obtain rfl : n' = n := hn'.out.symm.trans HL.out
  have q1 : Blk w1 w.heap.size 4 #[.bool seq] := q1
  have q2 := q1.after b2
  have c2 := b1.trans (b2.mono b1.size)
  have o2 := OwnL.less o2 b1.size
  clear h q1 g1 b1 b2 hn'
  go_wp2_with (first
    | (refine Held.wpList_alloc_cell (w := w2) rfl 48 rfl (.slice none 0 0) (by kernel_rfl) rfl ?_; intro w3 q3 g3 z3)
    | (refine Held.wpList_store_box (w := w3) rfl 48 _ _ rfl w2.heap.size rfl _ _ (.slice A' n' c') rfl q3 (by kernel_rfl) rfl rfl ?_; intro w4 q4 g4; have cb4 := cell_of_one q4)
    | (refine Held.wpList_alloc_cell (w := w4) rfl 3 rfl (.int .i64 0) (by kernel_rfl) rfl ?_; intro w5 q5 g5 z5)
    | (refine Held.wpList_store_box (w := w5) rfl 3 _ _ rfl w4.heap.size rfl _ _ (.int .i64 (n' : Int)) rfl q5 (by kernel_rfl) rfl rfl ?_; intro w6 q6 g6; have cb6 := cell_of_one q6))
  have s3 := g3.size
  have s4 := g4.size
  have s5 := g5.size
  have s6 := g6.size
  have s2 := (Array.getElem?_eq_some_iff.1 q2).1
  have h6 : SI w w2.heap.size w4.heap.size (.slice A' n' c') n' seq [] rs w6 := by
    have k3 := z3.out
    have k5 := z5.out
    have hlt := fun b hb => (OwnL.lt o2 b hb).2
    have o3 := own_new o2 g3 (fun r e => by cases e)
    have o4 := own_new o3 g4 (fun r e b hb => by cases e; have := hlt b hb; omega)
    have o5 := own_new o4 g5 (fun r e => by cases e)
    have o6 := own_new o5 g6 (fun r e b hb => by cases e; have := hlt b hb; omega)
    have y3 := Blk.grown q2 g3 (by simp)
    have y4 := Blk.grown y3 g4 (by intro e; injection e with e; omega)
    have y5 := Blk.grown y4 g5 (by simp)
    have y6 := Blk.grown y5 g6 (by intro e; injection e with e; omega)
    have q4 : Blk w4 w2.heap.size 48 #[.slice A' n' c'] := q4
    have x5 := Blk.grown q4 g5 (by simp)
    have x6 := Blk.grown x5 g6 (by intro e; injection e with e; omega)
    exact ⟨o6, x6, q6, y6, fun D hD => by simp at hD, (((c2.grown g3 c2.size (by simp)).grown g4 (by omega) (fun r e => by cases e; omega)).grown g5 (by omega) (by simp)).grown g6 (by omega) (fun r e => by cases e; omega)⟩
  clear q2 o2 q3 g3 q4 g4 q5 g5 q6 g6 c2 q1 z1
  apply wp_label
  go_wp2_with fail
  have hlb : w.heap.size < w2.heap.size := s2
  have hnb : w2.heap.size < w4.heap.size := by have := z3.out; omega
  have hnz : w4.heap.size < w6.heap.size := by have := z5.out; omega
  generalize w2.heap.size = lb at *
  generalize w4.heap.size = nb at *
  have hon : ∀ b, (Value.slice A' n' c').ownBlock = some b → b < w6.heap.size := fun b hb => (OwnL.lt h6.own b hb).2
  clear s2 s3 s4 s5 s6 z3 z5
  refine wp_loop (fun a W => ∃ (r : Nat) (Ds : List Nat) (v7 v15 v16 v17 v18 v19 v20 v30 : Value), r ≤ n' ∧ a = { tmps := #[.slice A n' c, .bool seq, undef, .pointer (some ⟨w.heap.size, 0, none⟩), .slice none 0 0, .pointer (some ⟨lb, 0, none⟩), .pointer (some ⟨nb, 0, none⟩), v7, undef, .slice A n' c, .slice A' n' c', .slice A' n' c', .int .i64 (n' : Int), .int .i64 (n' : Int), .int .i64 (r : Int), v15, v16, v17, v18, v19, v20, undef, undef, undef, undef, undef, undef, undef, undef, undef, v30, undef], defers := Ds.map mark } ∧ Ds.Nodup ∧ w6.heap.size ≤ W.heap.size ∧ SI w lb nb (.slice A' n' c') n' seq Ds (oetR seq r rs) W) (fun a _ => n' - (intOf (a.tmps.getD 14 undef)).toNat) ?_ ?_
  · exact ⟨0, [], undef, undef, undef, undef, undef, undef, undef, undef, by omega, rfl, List.nodup_nil, Nat.le_refl _, h6⟩
  · rintro a wr ⟨r, Ds, v7, v15, v16, v17, v18, v19, v20, v30, hr, rfl, hnd, hsz, hI⟩
    clear h6
    by_cases hlt : r < n'
    · have hlt' : (r : Int) < (n' : Int) := by omega
      obtain ⟨g, rfl, hg0, hgw, _⟩ := own_at0 hI.own (by omega)
      obtain ⟨f, hf⟩ : ∃ f, r % 2 = f := ⟨_, rfl⟩
      have hf1 : f ≤ 1 := by omega
      have hmod : ((r : Int)).tmod 2 = (f : Int) := by rw [Bi.rem_of (by omega)]; omega
      have hm := fun W => Held.run_rem (P := Tryd.prog) 3 .i64 (a := (r : Int)) (b := 2) (r := (f : Int)) (by omega) hmod W
      have knb := hI.num.cell (i := 0) rfl
      clear hmod
      go_wp2_with (refine Held.wpList_run (w := wr) rfl (v := .int .i64 (f : Int)) (Bi.y_rem (S := fun _ => True) (r : Int) 2 rfl rfl rfl hm _ trivial) ?_)
      refine (other_any (f : Int) (n' : Int) wr).mono ?_
      rintro e u ⟨bf, bn, rfl, qf, qn, hbf, hbn, bu⟩
      have hob : ∀ b, (Value.slice (some ⟨g, 0, none⟩) n' c').ownBlock = some b → b = g := fun b e => by have e : some g = some b := e; injection e with e; exact e.symm
      have hgl : g ≠ lb := fun e => OwnL.ne_blk hI.own hI.lst (by decide) (by rw [e]; rfl)
      have hgn : g ≠ nb := fun e => OwnL.ne_blk hI.own hI.num (by decide) (by rw [e]; rfl)
      have hgs : g ≠ w.heap.size := fun e => OwnL.ne_blk hI.own hI.sq (by decide) (by rw [e]; rfl)
      have hDl : ∀ D ∈ Ds, D < wr.heap.size := fun D hD => (Array.getElem?_eq_some_iff.1 (hI.marks D hD).1).1
      have hgr : g < w6.heap.size := hon g rfl
      have szu := bu.size
      have hu : SI w lb nb (.slice (some ⟨g, 0, none⟩) n' c') n' seq Ds (oetR seq r rs) u := hI.far (B := wr.heap.size) (grown_of_below bu none) (by simp) (by omega) (by omega) (by omega) hDl (fun b e => by have := hob b e; omega)
      have HXL := Lib.hid (show (oetR seq r rs).length = n' by rw [oetR_length]; exact HL.out)
      have HXW := Lib.hid (show ∀ x ∈ oetR seq r rs, x.wf from fun x hx => HW.out x ((oet_perm seq r rs).mem_iff.1 hx))
      have HNX := Lib.hid (show oetR seq (r + 1) rs = stepsR seq f ((n' - f) / 2) (oetR seq r rs) by rw [oetR, roundR, HXL.out, hf])
      generalize oetR seq r rs = xs at hu HXL HXW HNX
      have hit := fun M => places_stop M bn bf (fun b => b = g) f n' u hf1 (by omega) (qn.cell rfl) (qf.cell rfl) (fun e => by omega) (fun e => by omega)
      clear hI qf qn knb hm hf
      go_wp2_with fail
      refine (wpIn_wide (n := 3)).1 ?_
      refine wpIn_rangeFunc_stop rfl (by omega) (gf := 90) (lb := #[.pointer (some ⟨bn, 0, none⟩), .pointer (some ⟨bf, 0, none⟩)]) rfl trivial (enters_of Tryd.func90 (by kernel_rfl) rfl)
        (hit _) (fun h k => h.trans k) (fun W l o o' hl ho hc _ => Only.put W l o o' ho hc) (Below.refl _ _) (fun _ => rfl)
        (n' + 2) (fun k W => f + 2 * k ≤ n' ∧ SI w lb nb (.slice (some ⟨g, 0, none⟩) n' c') n' seq Ds (stepsR seq f k xs) W) (fun cd k W => cd = .exit 1 ∧ SI w lb nb (.slice (some ⟨g, 0, none⟩) n' c') n' seq Ds (stepsR seq f ((n' - f) / 2) xs) W)
        (fun k A B row h hg hr => ⟨h.1, h.2.far hg hr (by omega) (by omega) (by omega) (fun D hD => by have := hDl D hD; omega) (fun b e => by have := hob b e; omega)⟩)
        (fun cd k A B row h hg hr => ⟨h.1, h.2.far hg hr (by omega) (by omega) (by omega) (fun D hD => by have := hDl D hD; omega) (fun b e => by have := hob b e; omega)⟩)
        (fun k W h => by have := h.1; omega) ⟨by omega, hu⟩
        (fun x a' k W => SI w lb nb (.slice (some ⟨g, 0, none⟩) n' c') n' seq Ds (stepsR seq f k xs) W ∧ a' = { tmps := #[.slice A n' c, .bool seq, undef, .pointer (some ⟨w.heap.size, 0, none⟩), .slice none 0 0, .pointer (some ⟨lb, 0, none⟩), .pointer (some ⟨nb, 0, none⟩), .int .i64 (r : Int), .int .i64 (x : Int), .slice A n' c, .slice (some ⟨g, 0, none⟩) n' c', .slice (some ⟨g, 0, none⟩) n' c', .int .i64 (n' : Int), .int .i64 (n' : Int), .int .i64 (r : Int), .bool true, .int .i64 (r : Int), .int .i64 (r : Int), .int .i64 (f : Int), .int .i64 (n' : Int), .func (.func 90) #[] #[.pointer (some ⟨bn, 0, none⟩), .pointer (some ⟨bf, 0, none⟩)], .int .i64 (x : Int), undef, undef, undef, undef, undef, undef, undef, undef, v30, undef], defers := [] }) ?ib ?assign ?body ?done ?stop
      case ib =>
        rintro x a' k W W' row ⟨hi, h3⟩ hgr2 hrow
        exact ⟨hi.far (B := u.heap.size) hgr2 (fun r e => (hrow r e).1) (by omega) (by omega) (by omega) (fun D hD => by have := hDl D hD; omega) (fun b e => by have := hob b e; omega), h3⟩
      case assign =>
        intro l k x W K' hi hat hsz' hK
        simp only [encP, Held.zip_one, List.setIfInBounds_toArray, List.set_cons_zero, List.set_cons_succ]
        gi_wp2_with fail
        exact hK _ _ (KeepsOthers.refl _) (Only.refl _ _) ⟨hi.2, rfl⟩
      case body =>
        rintro l k x a' W hl hrec ⟨hi, rfl⟩ hat hsz'
        obtain ⟨hx, hxn⟩ := atP_some hat
        have knb := hi.num.cell (i := 0) rfl
        have klb := hi.lst.cell (i := 0) rfl
        have ksq := hi.sq.cell (i := 0) rfl
        have hsub : IntKind.i64.wrap ((n' : Int) - 1) = ((n' - 1 : Nat) : Int) := by rw [IntKind.wrap_i64]; omega
        by_cases hlast : x = n' - 1
        · have hdec : decide ((x : Int) = ((n' - 1 : Nat) : Int)) = true := by simp; omega
          have hk : k = (n' - f) / 2 := by omega
          subst hk
          clear hit hat
          gi_wp2_with (first
            | (refine Held.wpListIn_one (r := some l) rfl (by intro c e; cases e) ?_; refine Held.wpList_run (w := W) rfl (v := .int .i64 ((n' - 1 : Nat) : Int)) (Bi.y_sub (S := fun _ => True) (n' : Int) 1 rfl rfl rfl hsub _ trivial) ?_; refine wpList_nil ⟨rfl, ?_⟩)
            | (refine Held.wpListIn_one (r := some l) rfl (by intro c e; cases e) ?_; refine Held.wpList_run (w := W) rfl (v := .bool true) (Held.y_eqI (S := fun _ => True) rfl rfl rfl hdec _ trivial) ?_; refine wpList_nil ⟨rfl, ?_⟩; simp only [Act.put, Z1, Z2, Z3]))
          exact ⟨KeepsOthers.refl _, rfl, hi⟩
        · have hdec : decide ((x : Int) = ((n' - 1 : Nat) : Int)) = false := by simp; omega
          have hx1 : x + 1 < n' := by omega
          have hset := settle_any seq w.heap.size g n' c' x (stepsR seq f k xs) W hi.own (fun y hy => HXW.out y ((steps_perm seq f k xs (by have := HXL.out; omega)).mem_iff.1 hy)) hx1 (by omega)
          have HST := Lib.hid (show settleR seq (stepsR seq f k xs) x = stepsR seq f (k + 1) xs by rw [hx]; rfl)
          have hcl : ∃ cs, W.heap[g]? = some (.cells cs 51 (0, 0)) := by
            obtain ⟨g', e1, _, _, cur, e2⟩ := own_at0 hi.own (by omega)
            injection e1 with e1
            injection e1 with e1
            subst e1
            exact ⟨cur, e2⟩
          have HX := Lib.hid hx
          clear hit hat hx
          gi_wp2_with (first
            | (refine Held.wpListIn_one (r := some l) rfl (by intro c e; cases e) ?_; refine Held.wpList_run (w := W) rfl (v := .int .i64 ((n' - 1 : Nat) : Int)) (Bi.y_sub (S := fun _ => True) (n' : Int) 1 rfl rfl rfl hsub _ trivial) ?_; refine wpList_nil ⟨rfl, ?_⟩)
            | (refine Held.wpListIn_one (r := some l) rfl (by intro c e; cases e) ?_; refine Held.wpList_run (w := W) rfl (v := .bool false) (Held.y_eqI (S := fun _ => True) rfl rfl rfl hdec _ trivial) ?_; refine wpList_nil ⟨rfl, ?_⟩; simp only [Act.put, Z1, Z2, Z3]))
          refine ⟨trivial, ?_⟩
          refine (CallsIn.inRound l (callsIn_wide.2 hset)).mono ?_
          rintro e w7 ⟨⟨v, rfl⟩, o7, g7⟩
          gi_wp2_with fail
          rw [HST.out] at o7
          obtain ⟨cs, hcs⟩ := hcl
          have hgD : ∀ D ∈ Ds, some D ≠ some g := fun D hD e => by
            injection e with e
            have := (hi.marks D hD).1
            rw [e, hcs] at this
            cases this
          exact ⟨Held.others_of_grown hcs g7, Only.of_grown g7 (fun r e => by cases e; rfl), by have := HX.out; omega, hi.grown g7 o7 (by intro e; injection e with e; omega) (by intro e; injection e with e; omega) (by intro e; injection e with e; omega) hgD (fun r e => by cases e; omega)⟩
      case done =>
        rintro D k W hD hat ⟨hk, hi⟩ hDl'
        have hnk := atP_none hat
        obtain rfl : k = (n' - f) / 2 := by omega
        clear hit hat
        go_wp2_with fail
        have hDn : D ∉ Ds := fun hm => by have := hDl D hm; omega
        have hDW := (Array.getElem?_eq_some_iff.1 hDl').1
        have hcast : ((r + 1 : Nat) : Int) = (r : Int) + 1 := by omega
        refine ⟨⟨r + 1, D :: Ds, .int .i64 (r : Int), .bool true, .int .i64 (r : Int), .int .i64 (r : Int), .int .i64 (f : Int), .int .i64 (n' : Int), .func (.func 90) #[] #[.pointer (some ⟨bn, 0, none⟩), .pointer (some ⟨bf, 0, none⟩)], .int .i64 ((r : Int) + 1), by omega, by rw [hcast]; rfl, List.nodup_cons.2 ⟨hDn, hnd⟩, by omega, ?_⟩, ?_⟩
        · rw [HNX.out]
          exact ⟨hi.own, hi.lst, hi.num, hi.sq, fun D' hm => (List.mem_cons.1 hm).elim (fun e => by subst e; exact ⟨hDl', by omega⟩) (fun h' => hi.marks D' h'), hi.below⟩
        · simp [intOf]; omega
      case stop =>
        rintro D cd k W hD ⟨rfl, hi⟩ hDl'
        clear hit
        refine wpIn_wide.2 ?_
        go_wp2_with fail
        have hDn : D ∉ Ds := fun hm => by have := hDl D hm; omega
        have hDW := (Array.getElem?_eq_some_iff.1 hDl').1
        have hcast : ((r + 1 : Nat) : Int) = (r : Int) + 1 := by omega
        refine ⟨⟨r + 1, D :: Ds, .int .i64 (r : Int), .bool true, .int .i64 (r : Int), .int .i64 (r : Int), .int .i64 (f : Int), .int .i64 (n' : Int), .func (.func 90) #[] #[.pointer (some ⟨bn, 0, none⟩), .pointer (some ⟨bf, 0, none⟩)], .int .i64 ((r : Int) + 1), by omega, by rw [hcast]; rfl, List.nodup_cons.2 ⟨hDn, hnd⟩, by omega, ?_⟩, ?_⟩
        · rw [HNX.out]
          exact ⟨hi.own, hi.lst, hi.num, hi.sq, fun D' hm => (List.mem_cons.1 hm).elim (fun e => by subst e; exact ⟨hDl', by omega⟩) (fun h' => hi.marks D' h'), hi.below⟩
        · simp [intOf]; omega
    · obtain rfl : r = n' := by omega
      have klb := hI.lst.cell (i := 0) rfl
      obtain ⟨L, hL⟩ : ∃ L, Ds.map mark = L := ⟨_, rfl⟩
      have HLm := Lib.hid hL
      rw [hL]
      clear hL
      go_wp2_with fail
      rw [HO.out] at hI
      change LeavesInM _ _ _ _ _ _ L .returning wr
      rw [← HLm.out]
      refine leaves_marks (b0 := w.heap.size) (fun W => OwnL kRec 51 W w.heap.size (.slice A' r c') (sortR seq rs) ∧ Below w.heap.size w W) (fun W D hJ hD hDl => ?_) Ds wr hnd hI.marks ⟨hI.own, hI.below⟩ ?_
      case refine_2 => exact fun W' hJ => ⟨_, results_tmp (t := 4) rfl _ _ _, .slice A' r c', rfl, hJ.1, hJ.2⟩
      refine ⟨own_new hJ.1 (grownBy_putObj' W D _) (fun r e b hb => ?_), hJ.2.grown (grownBy_putObj' W D _) hJ.2.size (fun r e => by cases e; exact hD)⟩
      cases e
      obtain ⟨cs, hcs⟩ := own_cells hJ.1 hb
      intro e
      rw [e, hDl] at hcs
      cases hcs
end Go.Proofs.YtlinmcgmkpkpaaaDoor.Mg
namespace Go.Proofs.YtlinmcgmkpkpaaaDoor.Mg
open Go.RowKit Go.Shelf Go.Proofs.YtlinmcgmkpkpaaaDoor Mem Held Ct Rc Rs Sl
attribute [local irreducible] wpList wpListIn Calls
theorem run_front_nil {P : Program} {t e : TypeId} (sz : Nat) (ht : P.underlying t = some (.slice e)) (hs : (P.info? e).map (·.size) = some sz) (w : World) : (Instr.sliceAt t (.slice none 0 0) none (some (.int .i64 0)) none).run P w = .ok (.slice none 0 0) w := by
  have he : P.elem t = e := by simp [Program.elem, ht]
  have ht' : P.underlying t = some (.slice (P.elem t)) := by rw [he]; exact ht
  obtain ⟨inf, hi, h1⟩ := Option.map_eq_some_iff.1 hs
  have hz : (sizeOf e).run P w = .ok sz w := by simp [sizeOf, typeInfo, hi, h1]
  rw [run_sliceAt_slice w t _ _ _ _ ht', run_slice_h w t _ 0 0 ht' .i64 0 (by omega) (by omega), he, hz]
  rfl
theorem run_back_nil {P : Program} {t e : TypeId} (sz : Nat) (ht : P.underlying t = some (.slice e)) (hs : (P.info? e).map (·.size) = some sz) (A : Option Addr) (n cap : Nat) : ∃ A' c', ∀ w : World, (Instr.sliceAt t (.slice A n cap) (some (.int .i64 (n : Int))) none none).run P w = .ok (.slice A' 0 c') w := by
  have he : P.elem t = e := by simp [Program.elem, ht]
  have ht' : P.underlying t = some (.slice (P.elem t)) := by rw [he]; exact ht
  obtain ⟨inf, hi, h1⟩ := Option.map_eq_some_iff.1 hs
  refine ⟨if cap = n then A else A.map (·.add (n * sz)), cap - n, fun w => ?_⟩
  have hz : (sizeOf e).run P w = .ok sz w := by simp [sizeOf, typeInfo, hi, h1]
  rw [run_sliceAt_slice w t _ _ _ _ ht', run_slice_l w t _ n cap ht' .i64 _ (by omega) (by omega), he, hz]
  simp only [Result.andThen, sliced, Int.toNat_natCast, Nat.sub_self]
theorem own_parts {w : World} {base n c h : Nat} {A : Option Addr} {rs : List R} (ho : OwnL kRec 51 w base (.slice A n c) rs) (hw : ∀ r ∈ rs, r.wf) (hh : h ≤ n) :
    ∃ A1 A2 c2, (∀ W : World, (Instr.sliceAt 48 (.slice A n c) none (some (.int .i64 (h : Int))) none).run Tryd.prog W = .ok (.slice A1 h c) W) ∧ (∀ W : World, (Instr.sliceAt 48 (.slice A n c) (some (.int .i64 (h : Int))) none none).run Tryd.prog W = .ok (.slice A2 (n - h) c2) W) ∧
      Lst kRec w w.heap.size A1 h (rs.take h) ∧ Lst kRec w w.heap.size A2 (n - h) (rs.drop h) := by
  have hl := OwnL.lst ho hw
  have hL := hl.1
  rcases Nat.eq_zero_or_pos n with h0 | h0
  · obtain rfl : h = 0 := by omega
    obtain ⟨A', c', e, hc, _⟩ := OwnL.form ho
    injection e with e1 e2 e3
    subst h0
    obtain rfl : rs = [] := List.eq_nil_of_length_eq_zero hL
    rcases ho.2 with ⟨e, _⟩ | ⟨g, cap, cur, e, _⟩
    · injection e with e1 e2 e3
      subst e1
      subst e3
      obtain ⟨A2, c2, hb⟩ := run_back_nil (P := Tryd.prog) 4 Tryd.underlying48 (by kernel_rfl) none 0 0
      exact ⟨none, A2, c2, fun W => run_front_nil (P := Tryd.prog) 4 Tryd.underlying48 (by kernel_rfl) W, hb, Lst.nil _ _ _ _, Lst.nil _ _ _ _⟩
    · injection e with e1 e2 e3
      subst e1
      obtain ⟨A2, c2, hb⟩ := run_back_nil (P := Tryd.prog) 4 Tryd.underlying48 (by kernel_rfl) (some ⟨g, 0, none⟩) 0 c
      exact ⟨_, A2, c2, fun W => run_front_s (P := Tryd.prog) 4 Tryd.underlying48 (by kernel_rfl) g 0 0 c (h := 0) (by omega) W, hb, Lst.nil _ _ _ _, Lst.nil _ _ _ _⟩
  · obtain ⟨b, off, rfl, hb, hr⟩ := hl.2.2 h0
    obtain ⟨A', c', e, hc, _⟩ := OwnL.form ho
    injection e with e1 e2 e3
    have hnc : n ≤ c := by rw [← hL, e3]; exact hc
    have hd : Lst kRec w w.heap.size (some ⟨b, off + h * 4, none⟩) (n - h) (rs.drop h) := by
      refine ⟨by rw [List.length_drop, hL], fun x hx => hl.2.1 x (List.mem_of_mem_drop hx), fun _ => ⟨b, off + h * 4, rfl, hb, fun j v hv => ?_⟩⟩
      have hf : Sl.flat kRec (rs.drop h) = (Sl.flat kRec rs).drop (h * 4) := (flat_drop (k := kRec) rs h (by omega)).symm
      rw [hf, List.getElem?_drop] at hv
      have := hr (h * 4 + j) v hv
      rwa [← Nat.add_assoc] at this
    by_cases hhn : h < c
    · exact ⟨_, _, _, fun W => run_front_s (P := Tryd.prog) 4 Tryd.underlying48 (by kernel_rfl) b off n c (h := h) (by omega) W, fun W => run_back_s (P := Tryd.prog) 4 Tryd.underlying48 (by kernel_rfl) b off n c (l := h) hh hhn W, lst_take hl h hh, hd⟩
    · obtain rfl : h = n := by omega
      obtain ⟨A2, c2, hb2⟩ := run_back_nil (P := Tryd.prog) 4 Tryd.underlying48 (by kernel_rfl) (some ⟨b, off, none⟩) h c
      refine ⟨_, A2, c2, fun W => run_front_s (P := Tryd.prog) 4 Tryd.underlying48 (by kernel_rfl) b off h c (h := h) (by omega) W, fun W => by rw [Nat.sub_self]; exact hb2 W, lst_take hl h hh, ?_⟩
      rw [Nat.sub_self, List.drop_of_length_le (by omega)]
      exact Lst.nil _ _ _ _
set_option maxRecDepth 100000 in
set_option maxHeartbeats 4000000 in
theorem grow_any (n : Nat) (w : World) (hn : n ≤ 1048576) :
    Calls Tryd.prog 36 #[.slice none 0 0, .int .i64 (n : Int)] w fun e w' => ∃ v, e = .returned v ∧ OwnL kRec 51 w' w.heap.size v [] ∧ Below w.heap.size w w' := by
  go_enter Tryd.func36, Tryd.ntmps36
  by_cases h0 : n = 0
  · subst h0
    go_wp2_with fail
    go_ret
    exact ⟨_, rfl, OwnL.nil _ _ _ _, Below.refl _ _⟩
  · have h1 : ¬ (n : Int) < 0 := by omega
    have h2 : (n : Int) > 0 := by omega
    obtain ⟨ie, hie, hz, hsz, hby⟩ := info_parts info_kRec
    have hr := fun ty => Lib.run_append_nil_zeros (P := Tryd.prog) w 48 3 ty 51 ie _ .i64 .i64 Tryd.underlying48 Tryd.underlying3 hie hz n (by omega) (by rw [hsz]; decide) (by omega) (by rw [hby]; omega)
    have hge := grownCap_ge w n 0 51
    have hcm : grownCap w n 0 51 ≤ maxLen := grownCap_le_maxLen w n 0 51 (by simp only [maxLen]; omega)
    have hcs : (Builtin.zeroCells (Value.agg (kRec.cells kRec.d).toArray).cells n ++ Builtin.zeroCells (Value.agg (kRec.cells kRec.d).toArray).cells (grownCap w n 0 51 - n)).size = grownCap w n 0 51 * 4 := by
      rw [Array.size_append, size_zeroCells, size_zeroCells, show (Value.agg (kRec.cells kRec.d).toArray).cells.size = 4 from rfl]
      omega
    generalize grownCap w n 0 51 = cap at hr hge hcm hcs
    generalize (Builtin.zeroCells (Value.agg (kRec.cells kRec.d).toArray).cells n ++ Builtin.zeroCells (Value.agg (kRec.cells kRec.d).toArray).cells (cap - n)) = cs at hr hcs
    obtain ⟨w1, hw1⟩ : ∃ w1, w.drew.alloc (.cells cs 51) = w1 := ⟨_, rfl⟩
    have q1 : Blk w1 w.heap.size 51 cs := by rw [← hw1]; exact heap_alloc_new w.drew _
    have b1 : Below w.heap.size w w1 := by rw [← hw1]; exact (Below.refl w.heap.size w).drew.alloc (Nat.le_refl _) _
    rw [hw1] at hr
    clear hw1 hie hz hsz hby
    go_wp2_with (first
      | (refine Held.wpList_run (w := w) rfl (v := .slice none 0 0) (Held.y_slice (S := fun _ => True) rfl (fun W => run_front_nil (P := Tryd.prog) 4 Tryd.underlying48 (by kernel_rfl) W) _ trivial) ?_)
      | (at_builtin; refine Rs.wpList_append_ran (w := w) rfl _ _ 48 3 rfl _ _ _ w1 rfl rfl (hr _) ?_)
      | (refine Held.wpList_run (w := w1) rfl (v := .slice (some ⟨w.heap.size, 0, none⟩) 0 cap) (Held.y_slice (S := fun _ => True) rfl (fun W => run_front_s (P := Tryd.prog) 4 Tryd.underlying48 (by kernel_rfl) w.heap.size 0 n cap (h := 0) (by omega) W) _ trivial) ?_))
    go_ret
    refine ⟨_, rfl, ⟨rfl, .inr ⟨w.heap.size, cap, cs, rfl, Nat.le_refl _, q1, Nat.zero_le _, hcm, hcs, ?_⟩⟩, b1⟩
    simp [Sl.flat]
end Go.Proofs.YtlinmcgmkpkpaaaDoor.Mg
namespace Go.Proofs.YtlinmcgmkpkpaaaDoor.Mg
open Go.RowKit Go.Shelf Go.Proofs.YtlinmcgmkpkpaaaDoor Mem Held Ct Rc Rs Sl
attribute [local irreducible] wpList wpListIn Calls
section
variable {α : Type} {k : St α} {P : Program} {ops : Array Oper} {o : Oper} {a : Act} {w : World} {Q : Exit → Act → World → Prop}
theorem run_append_all (w : World) (ts ty e : TypeId) (hu : P.underlying ts = some (.slice e)) (z : Value) (bytes : Nat) (hinfo : (P.info? e).map (fun i => (i.zero, i.size, i.bytes)) = some (some z, k.s, bytes)) (hz : z.cells.size = k.s)
    (base B m c : Nat) (A : Option Addr) (v : Value) (xs ys : List α) (hown : OwnL k e w base v xs) (hq : Lst k w B A m ys) (hm : xs.length + m ≤ 1048576) (hby : bytes ≤ 1048576) (hbase : base ≤ w.heap.size) :
    ∃ v' w', (Builtin.append_ #[ts, ts] ty #[v, .slice A m c]).run P w = .ok v' w' ∧ OwnL k e w' base v' (xs ++ ys) ∧ w.grownBy w' v.ownBlock ∧ (v'.ownBlock = v.ownBlock ∨ v'.ownBlock = some w.heap.size) := by
  obtain ⟨ie, hie, hz0, hsz, hb⟩ := info_parts hinfo
  rcases Nat.eq_zero_or_pos m with h0 | h0
  · subst h0
    have e0 : ys = [] := List.eq_nil_of_length_eq_zero hq.1
    subst e0
    obtain ⟨A', c', rfl, hle, _⟩ := OwnL.form hown
    exact ⟨_, w, run_append_zero ts e hu ie hie w A' A _ c' c hle, by rw [List.append_nil]; exact hown, World.grownBy.refl w _, .inl rfl⟩
  · obtain ⟨g, off, rfl, _, hc⟩ := hq.2.2 h0
    obtain ⟨v', w', h1, h2, h3, _, h5⟩ := run_append_own_at (P := P) w base ts ty e ie z k.s bytes hu hie hz0 hsz hb hz k.pos v xs.length (flat k xs) hown ⟨g, off, none⟩ m c (flat k ys) (by rw [Sl.flat_length, hq.1])
      (fun j u hj => by rw [show (Addr.mk g off none).add j = ⟨g, off + j, none⟩ by (unfold Addr.add; split <;> simp_all)]; exact hc j u hj) (flat_cell ys) (by unfold maxLen; omega) (Nat.le_trans (Nat.mul_le_mul hm hby) (by omega)) hbase
    refine ⟨v', w', h1, ?_, h3, h5⟩
    unfold OwnL
    rw [Sl.flat_append, List.length_append, hq.1]
    exact h2
theorem op_append_all (i : Nat) (d : Option Tmp) {K : Act → World → Prop} {s x : Operand} (ts e : TypeId) (hi : ops[i]? = some o) (hd : o.dst = d) (hw : Region.wanted o (yielded ops a.tmps) = true)
    (ho : o.op = .call { callee := .builtin .append, args := #[s, x], argTypes := #[ts, ts] }) (hu : P.underlying ts = some (.slice e)) (z : Value) (bytes : Nat) (hinfo : (P.info? e).map (fun i => (i.zero, i.size, i.bytes)) = some (some z, k.s, bytes)) (hz : z.cells.size = k.s)
    (base B m c : Nat) (A : Option Addr) (v : Value) (xs ys : List α) (hs : a.eval s = v) (hx : a.eval x = .slice A m c) (hown : OwnL k e w base v xs) (hq : Lst k w B A m ys) (hm : xs.length + m ≤ 1048576) (hby : bytes ≤ 1048576) (hbase : base ≤ w.heap.size)
    (h : ∀ v' w', OwnL k e w' base v' (xs ++ ys) → w.grownBy w' v.ownBlock → (v'.ownBlock = v.ownBlock ∨ v'.ownBlock = some w.heap.size) → K (a.put d v') w') : wpOp P ops Q i K a w := by
  subst hd
  obtain ⟨v', w', h1, h2, h3, h4⟩ := run_append_all (P := P) w ts o.type e hu z bytes hinfo hz base B m c A v xs ys hown hq hm hby hbase
  refine op_wp i hi hw ?_
  exact Lib.wp_append_run w s x ts ts ho _ _ hs hx _ w' h1 (h v' w' h2 h3 h4)
end
theorem take_snoc {rs : List R} {i : Nat} (h : i < rs.length) : rs.take (i + 1) = rs.take i ++ [rs.getD i R0] := by
  rw [List.take_add_one, List.getElem?_eq_getElem h, List.getD_eq_getElem?_getD, List.getElem?_eq_getElem h]
  rfl
end Go.Proofs.YtlinmcgmkpkpaaaDoor.Mg
namespace Go.Proofs.YtlinmcgmkpkpaaaDoor.Pi
open Go.RowKit Go.Shelf Mem Held Ct Rc Rs Sl Vm Sp Mg
attribute [local go_sem] Oper.semAt_some
attribute [local irreducible] wpList wpListIn Calls
def OS : O := ⟨1, 3, 0, 0, 0, 1⟩
def OE (i : Nat) : O := ⟨12, 0, 0, 1, 3, (i : Int)⟩
def OA : O := ⟨2, 0, 0, 1, 0, 0⟩
def sumM (i : Nat) : List O := OS :: (List.range i).map OE
theorem sumM_succ (i : Nat) : sumM i ++ [OE i] = sumM (i + 1) := by simp [sumM, List.range_succ]
theorem sumM_length (i : Nat) : (sumM i).length = i + 1 := by simp [sumM]
theorem OS_wf : OS.wf := ⟨rfl, rfl, rfl, rfl, rfl, rfl⟩
theorem OA_wf : ∀ o ∈ [OA], o.wf := fun o ho => by rw [List.mem_singleton.1 ho]; exact ⟨rfl, rfl, rfl, rfl, rfl, rfl⟩
theorem OE_wf {i : Nat} (hi : i ≤ 4) : (OE i).wf := ⟨rfl, rfl, rfl, rfl, rfl, nat_wf (by omega)⟩
theorem sumM_wf {i : Nat} (hi : i ≤ 4) : ∀ o ∈ sumM i, o.wf := fun o ho => by
  rcases List.mem_cons.1 ho with rfl | ho
  · exact OS_wf
  · obtain ⟨j, hj, rfl⟩ := List.mem_map.1 ho
    exact OE_wf (by have := List.mem_range.1 hj; omega)
theorem sum_check : ∀ k : Nat, 1 ≤ k → k ≤ 2 → checkB (k : Int) (sumM k) [OA] [] = true := fun k h1 h2 => by
  rcases (show k = 1 ∨ k = 2 by omega) with rfl | rfl <;> decide +kernel
theorem op_info : (Tryd.prog.info? 58).map (fun i => (i.zero, i.size, i.bytes)) = some (some (.agg (kO.cells kO.d).toArray), kO.s, 48) := by kernel_rfl
theorem prog_zero : (Tryd.prog.info? 26).bind (·.zero) = some (.agg #[.int .i64 0, .slice none 0 0, .slice none 0 0, .slice none 0 0]) := by kernel_rfl
set_option maxRecDepth 100000 in
set_option maxHeartbeats 4000000 in
theorem sums_any (k : Nat) (hk1 : 1 ≤ k) (hk2 : k ≤ 2) (w : World) : Calls Tryd.prog 17 #[.int .i64 (k : Int)] w fun e w' => ∃ A n c g, e = .returned (.agg #[.int .i64 (k : Int), .slice A n c, .slice (some ⟨g, 0, none⟩) 1 1, .slice none 0 0]) ∧
    Lst kO w' w'.heap.size A n (sumM k) ∧ Lst kO w' w'.heap.size (some ⟨g, 0, none⟩) 1 [OA] ∧ (∀ b off, A = some ⟨b, off, none⟩ → w.heap.size ≤ b) ∧ w.heap.size ≤ g ∧ Below w.heap.size w w' := by
  go_enter Tryd.func17, Tryd.ntmps17
  go_wp2_with (first
    | (refine wpList_alloc_blk (w := w) rfl 26 rfl _ prog_zero ?_; intro w1 q1 g1 z1)
    | (refine wpList_build_blk rfl 58 #[(0, .const (.int .i64 1)), (1, .const (.int .i64 3)), (5, .const (.int .i64 1))] rfl #[.int .i64 1, .int .i64 3, .int .i64 0, .int .i64 0, .int .i64 0, .int .i64 1] (by kernel_rfl) ?_)
    | (refine wpList_build_blk rfl 58 #[(0, .const (.int .i64 2)), (3, .const (.int .i64 1))] rfl #[.int .i64 2, .int .i64 0, .int .i64 0, .int .i64 1, .int .i64 0, .int .i64 0] (by kernel_rfl) ?_)
    | (refine wpList_build_lst (w := w1) (k := kO) rfl 24 58 1 _ rfl Tryd.underlying24 _ 48 op_info rfl [OS] rfl (by kernel_rfl) (by omega) (by decide) ?_; intro w2 q2 g2 z2; have q1 := q1.grown g2 (by simp))
    | (refine wpList_build_lst (w := w2) (k := kO) rfl 24 58 1 _ rfl Tryd.underlying24 _ 48 op_info rfl [OA] rfl (by kernel_rfl) (by omega) (by decide) ?_; intro w3 q3 g3 z3; have q1 := q1.grown g3 (by simp); have q2 := q2.grown g3 (by simp))
    | (refine wpList_build_blk rfl 26 _ rfl #[.int .i64 (k : Int), .slice (some ⟨w1.heap.size, 0, none⟩) 1 1, .slice (some ⟨w2.heap.size, 0, none⟩) 1 1, .slice none 0 0] (by kernel_rfl) ?_)
    | (refine wpList_alloc_blk (w := w3) rfl 26 rfl _ prog_zero ?_; intro w4 q4 g4 z4; have q1 := q1.grown g4 (by simp); have q2 := q2.grown g4 (by simp); have q3 := q3.grown g4 (by simp))
    | (refine wpList_store_blk (w := w4) rfl 26 _ _ rfl w3.heap.size 4 rfl 26 _ #[.int .i64 (k : Int), .slice (some ⟨w1.heap.size, 0, none⟩) 1 1, .slice (some ⟨w2.heap.size, 0, none⟩) 1 1, .slice none 0 0] rfl q4 info_prog rfl rfl (by kernel_rfl) ?_; intro w5 q5 g5 z5))
  have s1 : w.heap.size ≤ w1.heap.size := g1.size
  have s2 : w1.heap.size ≤ w2.heap.size := g2.size
  have s3 : w2.heap.size ≤ w3.heap.size := g3.size
  have s4 : w3.heap.size ≤ w4.heap.size := g4.size
  have l1 := q1.lt
  have l2 := q2.lt
  have l3 := q3.lt
  have n1 : w.heap.size < w3.heap.size := by have := z1.out; omega
  have n2 : w1.heap.size < w3.heap.size := by have := z2.out; omega
  have n3 : w2.heap.size < w3.heap.size := by have := z3.out; omega
  have q1 := q1.grown g5 (by intro e; injection e with e; omega)
  have q2 := q2.grown g5 (by intro e; injection e with e; omega)
  have q3 := q3.grown g5 (by intro e; injection e with e; omega)
  have b5 : Below w.heap.size w w5 := ((((Below.refl _ w).grown g1 (Nat.le_refl _) (by simp)).grown g2 s1 (by simp)).grown g3 (by omega) (by simp)).grown g4 (by omega) (by simp) |>.grown g5 (by omega) (fun r e => by cases e; omega)
  have o2 : OwnL kO 58 w5 w.heap.size (.slice (some ⟨w1.heap.size, 0, none⟩) 1 1) (sumM 0) := own_of_blk (xs := [OS]) q2 s1 (by decide)
  have hR := Lib.hid (show w2.heap.size ≠ w3.heap.size ∧ w.heap.size ≠ w3.heap.size ∧ w.heap.size ≤ w3.heap.size by omega)
  have hGF := Lib.hid (show w.heap.size ≤ w2.heap.size by omega)
  have ne0 : (Value.slice (some ⟨w1.heap.size, 0, none⟩) 1 1).ownBlock ≠ some w2.heap.size := by intro e; injection e with e; have e : w1.heap.size = w2.heap.size := e; have := z2.out; omega
  generalize w2.heap.size = gf at *
  generalize w3.heap.size = gp at *
  generalize hA : some (Addr.mk w1.heap.size 0 none) = A0 at *
  clear q4 g1 g2 g3 g4 g5 z1 z2 z3 z4 z5 l1 l2 l3 n1 n2 n3 s1 s2 s3 s4 q2 hA
  go_loopw [4] (fun iv wr => ∃ (i : Nat) (A : Option Addr) (c : Nat), i ≤ k ∧ iv = .int .i64 i ∧ Blk wr w.heap.size 26 #[.int .i64 0, .slice none 0 0, .slice none 0 0, .slice none 0 0] ∧ Blk wr gp 26 #[.int .i64 (k : Int), .slice A (i + 1) c, .slice (some ⟨gf, 0, none⟩) 1 1, .slice none 0 0] ∧
    OwnL kO 58 wr w.heap.size (.slice A (i + 1) c) (sumM i) ∧ Blk wr gf 58 (Sl.flat kO [OA]).toArray ∧ (Value.slice A (i + 1) c).ownBlock ≠ some gf ∧ Below w.heap.size w wr) (fun i _ => k - (intOf i).toNat)
  case atStart => exact ⟨0, A0, 1, by omega, rfl, q1, q5, o2, q3, ne0, b5⟩
  case round =>
    clear q1 q5 o2 q3 b5 ne0 q2
    obtain ⟨i, A, c, hi, rfl, q1, q5, o2, q3, ne3, b5⟩ := hrel
    by_cases hlt : i < k
    · have hlt' : (i : Int) < (k : Int) := by omega
      have hb := b5.size
      have ne1 : (Value.slice A (i + 1) c).ownBlock ≠ some gp := OwnL.ne_blk o2 q5 (by decide)
      have ne2 : (Value.slice A (i + 1) c).ownBlock ≠ some w.heap.size := OwnL.ne_blk o2 q1 (by decide)
      have hc1 : wr.cell? ⟨gp, 1, none⟩ = some (.slice A (i + 1) c) := q5.cell (i := 1) rfl
      have hl1 := q1.lt
      have hl3 := q3.lt
      have hl5 := q5.lt
      go_wp2_with (first
        | (refine wpList_run (w := wr) rfl (v := .pointer (some ⟨gp, 1, none⟩)) (Held.y_field (S := fun _ => True) (k := 1) (s := 0) rfl rfl Tryd.underlying26 rfl (by kernel_rfl) rfl _ trivial) ?_)
        | (refine wpList_build_blk rfl 58 _ rfl #[.int .i64 12, .int .i64 0, .int .i64 0, .int .i64 1, .int .i64 3, .int .i64 (i : Int)] (by kernel_rfl) ?_)
        | (refine wpList_build_lst (w := wr) (k := kO) rfl 24 58 1 _ rfl Tryd.underlying24 _ 48 op_info rfl [OE i] rfl (by kernel_rfl) (by omega) (by decide) ?_; intro w2 q2 g2 z2; have q1 := q1.grown g2 (by simp); have q3 := q3.grown g2 (by simp); have q5 := q5.grown g2 (by simp); have o2 := OwnL.below o2 ((Below.refl _ _).grown g2 (Nat.le_refl _) (by simp)); have l2 : Lst kO w2 w2.heap.size (some ⟨wr.heap.size, 0, none⟩) 1 [OE i] := lst_whole q2 rfl (fun y hy => by rw [List.mem_singleton.1 hy]; exact OE_wf (by omega)); have b2 := b5.grown g2 hb (by simp); have hb2 := b2.size)
        | (at_builtin; refine wpList_append_all (k := kO) (w := w2) rfl _ _ 24 58 rfl Tryd.underlying24 _ 48 op_info rfl w.heap.size w2.heap.size 1 1 (some ⟨wr.heap.size, 0, none⟩) (.slice A (i + 1) c) _ [OE i] rfl rfl o2 l2 (by rw [sumM_length]; omega) (by omega) hb2 ?_; intro v3 w3 o3 g3 m3; have q1 := q1.grown g3 (Ne.symm ne2); have q3 := q3.grown g3 (Ne.symm ne3); have q5 := q5.grown g3 (Ne.symm ne1); have b3 := b2.grown g3 hb2 (fun r e => (OwnL.lt o2 r e).1); have hb3 := b3.size; obtain ⟨A3, n3, c3, rfl, hn3, _⟩ := OwnL.form2 o3; have ev3 : A3 = A3 := rfl)
        | (refine wpList_store_field (w := w3) rfl 24 _ _ rfl gp 1 rfl 26 _ (.slice A3 n3 c3) rfl q5 (by simp) (by kernel_rfl) rfl rfl ?_; intro w4 q5 g4 z4; have q1 := q1.grown g4 (by intro e; injection e with e; exact hR.out.2.1 e); have q3 := q3.grown g4 (by intro e; injection e with e; exact hR.out.1 e); have b4 := b3.grown g4 hb3 (fun r e => by cases e; exact hR.out.2.2)))
      obtain rfl : i + 1 + 1 = n3 := by rw [← hn3.out, sumM_succ, sumM_length]
      have o4 := OwnL.kept o3 g4 (.inr (by
        rcases m3 with e | e
        · rw [e]; exact ne1
        · rw [e]; intro e2; injection e2 with e2; have e2 : w2.heap.size = _ := e2; have := z2.out; omega))
      rw [sumM_succ] at o4
      have ne4 : (Value.slice A3 (i + 1 + 1) c3).ownBlock ≠ some gf := by
        rcases m3 with e | e
        · rw [e]; exact ne3
        · rw [e]; intro e2; injection e2 with e2; have e2 : w2.heap.size = _ := e2; have := z2.out; omega
      clear hn3 o3 o2 l2 g3 g4 m3 g2 z2 z4 q2
      go_roundw
      case rel => exact ⟨i + 1, A3, c3, by omega, by go_num, q1, q5, o4, q3, ne4, b4⟩
      case measure => simp [intOf]; omega
    · obtain rfl : i = k := by omega
      have hl1 := q1.lt
      have hb := b5.size
      go_wp2_with (first
        | (refine wpList_load_blk (w := wr) rfl 26 _ rfl gp 4 rfl 26 _ q5 _ Tryd.underlying26 rfl info_prog rfl ?_)
        | (refine wpList_store_blk (w := wr) rfl 26 _ _ rfl w.heap.size 4 rfl 26 _ #[.int .i64 (i : Int), .slice A (i + 1) c, .slice (some ⟨gf, 0, none⟩) 1 1, .slice none 0 0] rfl q1 info_prog rfl rfl (by kernel_rfl) ?_; intro w2 q2 g2 z2; have o2 := OwnL.kept o2 g2 (.inr (OwnL.ne_blk o2 q1 (by decide))); have q3 := q3.grown g2 (by intro e; injection e with e; subst e; exact absurd (q1.symm.trans q3) (by simp)); have b2 := b5.grown g2 hb (fun r e => by cases e; exact Nat.le_refl _)))
      refine bodyPost_ret (results_blk rfl _ _ w.heap.size 4 _ _ rfl q2 _ Tryd.underlying26 rfl info_prog rfl) rfl ⟨A, i + 1, c, gf, rfl, OwnL.lst o2 (sumM_wf (by omega)), lst_whole q3 rfl OA_wf, fun b off e => by subst e; exact (OwnL.lt o2 b rfl).1, hGF.out, b2⟩
end Go.Proofs.YtlinmcgmkpkpaaaDoor.Pi
namespace Go.Proofs.YtlinmcgmkpkpaaaDoor.Bi
open Go.RowKit Go.Proofs.YtlinmcgmkpkpaaaDoor
theorem high_lt {d q a : Nat} (hd : 0 < d) (ha : a < d * (2 * q)) (hb : a / d % 2 = 0) : a + d < d * (2 * q) := by
  have h1 : a / d < 2 * q := Nat.div_lt_of_lt_mul ha
  have h2 : a < d * (a / d + 1) := Nat.lt_mul_div_succ a hd
  have h3 : a / d + 2 ≤ 2 * q := by omega
  have h4 : d * (a / d + 2) ≤ d * (2 * q) := Nat.mul_le_mul_left d h3
  have h5 : d * (a / d + 2) = d * (a / d + 1) + d := by rw [show a / d + 2 = (a / d + 1) + 1 by omega, Nat.mul_add d (a / d + 1) 1, Nat.mul_one]
  omega
theorem pow_split {S t : Nat} (h1 : 1 ≤ t) (h2 : t ≤ S) : 2 ^ S = 2 ^ (t - 1) * (2 * 2 ^ (S - t)) := by
  rw [← Nat.mul_assoc, show 2 ^ (t - 1) * 2 = 2 ^ t by rw [← Nat.pow_succ]; congr 1; omega, ← Nat.pow_add]
  congr 1; omega
theorem mem_firsts {d n a : Nat} : a ∈ Net.firsts d n ↔ a < n ∧ a / d % 2 = 0 := by
  unfold Net.firsts
  rw [List.mem_filter, List.mem_range]
  simp
theorem pair_lt {S t a : Nat} (h1 : 1 ≤ t) (h2 : t ≤ S) (ha : a ∈ Net.firsts (2 ^ (t - 1)) (2 ^ S)) : a + 2 ^ (t - 1) < 2 ^ S := by
  obtain ⟨h3, h4⟩ := mem_firsts.1 ha
  rw [pow_split h1 h2] at h3 ⊢
  exact high_lt (Nat.two_pow_pos _) h3 h4
theorem pairs_pow {S t : Nat} (h : S ≤ 16) : pairsOf (2 ^ S) t true = Net.firsts (2 ^ (t - 1)) (2 ^ S) := by
  unfold pairsOf
  rw [if_pos rfl, two_nat, Int.toNat_natCast]
theorem getD_mem {l : List Nat} {i : Nat} (hi : i < l.length) : l.getD i 0 ∈ l := by
  rw [List.getD_eq_getElem?_getD, List.getElem?_eq_getElem hi]
  exact List.getElem_mem hi
def fn (l : List Int) (i : Nat) : Int := l.getD i 0
def Behind (f0 : Nat → Int) (r : Nat) (l : List Int) : Prop := ∃ s t, (t < s ∨ (s = 0 ∧ t = 0)) ∧ r + t = tri s ∧ Net.steps (Net.ups s) t (fn l) = Net.stages s f0
theorem behind_start (l : List Int) : Behind (fn l) 0 l := ⟨0, 0, .inr ⟨rfl, rfl⟩, rfl, rfl⟩
theorem behind_round {f0 : Nat → Int} {r S s t n : Nat} {l : List Int} (h : Behind f0 r l) (hr : Stp S (r : Int) s t) (hl : l.length = n) (hn : n = 2 ^ S) :
    Behind f0 (r + 1) ((Net.firsts (2 ^ (t - 1)) n).foldl (Net.sw (2 ^ (t - 1)) (Net.ups s)) l) := by
  obtain ⟨t1, ts, sS, he⟩ := hr
  have hst : Net.steps (Net.ups s) t (fn l) = Net.stages s f0 := by
    obtain ⟨s', t', hor, e1, e2⟩ := h
    obtain ⟨q, rfl⟩ : ∃ q, s = q + 1 := ⟨s - 1, by omega⟩
    simp only [Nat.add_sub_cancel] at he
    have he' : r + t = tri (q + 1) := by rw [tri_succ]; omega
    rcases hor with h1 | ⟨rfl, rfl⟩
    · rcases Nat.eq_zero_or_pos t' with h0 | h0
      · subst h0
        have hq : s' = q := by
          rcases Nat.lt_trichotomy s' q with c | c | c
          · have := tri_mono (show s' + 1 ≤ q by omega); rw [tri_succ] at this; omega
          · exact c
          · have := tri_mono (show q + 1 ≤ s' by omega); omega
        subst hq
        have ht : t = s' + 1 := by rw [tri_succ] at he'; omega
        subst ht
        change fn l = _ at e2
        rw [e2]
        rfl
      · have := (Stp.mk (S := max S s') (by omega : 1 ≤ t') (by omega : t' ≤ s') (by omega) (show (r : Int) = ((tri (s' - 1) + (s' - t') : Nat) : Int) by
          obtain ⟨q', rfl⟩ : ∃ q, s' = q + 1 := ⟨s' - 1, by omega⟩
          simp only [Nat.add_sub_cancel]
          rw [tri_succ] at e1; omega) : Stp (max S s') (r : Int) s' t').unique (Stp.mk (S := max S s') t1 ts (by omega) (by simpa using he))
        obtain ⟨rfl, rfl⟩ := this
        exact e2
    · have h00 : r = 0 := by rw [tri_zero] at e1; omega
      subst h00
      have hq : q = 0 := by
        rcases Nat.eq_zero_or_pos q with c | c
        · exact c
        · have := tri_mono (show 1 ≤ q from c)
          rw [show tri 1 = 1 from rfl] at this
          rw [tri_succ] at he'
          omega
      subst hq
      have ht : t = 1 := by omega
      subst ht
      change fn l = _ at e2
      rw [e2]
      rfl
  refine ⟨s, t - 1, .inl (by omega), ?_, ?_⟩
  · obtain ⟨q, rfl⟩ : ∃ q, s = q + 1 := ⟨s - 1, by omega⟩
    simp only [Nat.add_sub_cancel] at he
    rw [tri_succ]; omega
  · obtain ⟨t', rfl⟩ : ∃ t', t = t' + 1 := ⟨t - 1, by omega⟩
    rw [← hst]
    show _ = Net.steps (Net.ups s) t' (Net.step (2 ^ t') (Net.ups s) (fn l))
    simp only [Nat.add_sub_cancel]
    congr 1
    funext x
    have hd : 0 < 2 ^ t' := Nat.two_pow_pos _
    obtain ⟨_, h2⟩ := Net.round_to (d := 2 ^ t') (n := n) (Net.ups s) hd hl (fun a ha hb => by
      subst hn
      exact pair_lt t1 (by omega) (mem_firsts.2 ⟨ha, hb⟩)) n (Nat.le_refl n)
    show List.getD _ x 0 = _
    rw [h2 x]
    have hz : ∀ y, n ≤ y → fn l y = 0 := fun y hy => by unfold fn; rw [List.getD_eq_getElem?_getD, List.getElem?_eq_none (by omega)]; rfl
    by_cases c : Net.lead (2 ^ t') x < n
    · rw [if_pos c]; rfl
    · rw [if_neg c]
      have hle := Net.lead_le (2 ^ t') x
      have e0 : l.getD x 0 = 0 := hz x (by omega)
      rw [e0]
      unfold Net.step
      by_cases hb : x / 2 ^ t' % 2 = 0
      · rw [if_pos hb, hz x (by omega), hz (x + 2 ^ t') (by omega)]; split <;> rfl
      · rw [if_neg hb, hz x (by omega)]
        have : Net.lead (2 ^ t') x = x - 2 ^ t' := by unfold Net.lead; rw [if_neg hb]
        rw [hz (x - 2 ^ t') (by omega)]; split <;> rfl
theorem behind_end {f0 : Nat → Int} {S : Nat} {l : List Int} (h : Behind f0 (tri S) l) {x y : Nat} (hxy : x ≤ y) (hy : y < 2 ^ S) : l.getD x 0 ≤ l.getD y 0 := by
  obtain ⟨s, t, hor, e1, e2⟩ := h
  have hs : s = S ∧ t = 0 := by
    rcases hor with h1 | ⟨rfl, rfl⟩
    · obtain ⟨q, rfl⟩ : ∃ q, s = q + 1 := ⟨s - 1, by omega⟩
      have e3 := tri_succ q
      rcases Nat.lt_trichotomy (q + 1) S with c | c | c
      · have := tri_mono (show q + 1 + 1 ≤ S by omega); rw [tri_succ] at this; omega
      · subst c; exact ⟨rfl, by omega⟩
      · have := tri_mono (show S ≤ q by omega); omega
    · rcases Nat.eq_zero_or_pos S with c | c
      · exact ⟨c.symm, rfl⟩
      · have := tri_mono (show 1 ≤ S from c)
        rw [show tri 1 = 1 from rfl] at this
        rw [tri_zero] at e1; omega
  obtain ⟨rfl, rfl⟩ := hs
  change fn l = _ at e2
  have h1 : l.getD x 0 = Net.stages s f0 x := congrFun e2 x
  have h2 : l.getD y 0 = Net.stages s f0 y := congrFun e2 y
  rw [h1, h2]
  exact Net.stages_rise s f0 hxy hy
end Go.Proofs.YtlinmcgmkpkpaaaDoor.Bi
