/-
  The document's store: what two names show, exchanged (Swap), by its contract.
  One cell of a struct in a list of the call's own stored; what an old list of names showed of a name, found by looking at all of it: no program here but types.
  The library's slices.Grow of no records and slices.Concat of two lists of records, by their contracts.
-/
import Derived.Test.YtbippmbcgkicaaaB11
import Derived.Test.YtbippmbcgkicaaaB4
import Derived.Test.YtbippmbcgkicaaaB2
import Derived.Test.YtbippmbcgkicaaaB3
set_option linter.unusedVariables false
namespace Go.Proofs.Ytbippmbcgkicaaa.Sto
open Go.RowKit Go.Shelf Go.Proofs.Ytbippmbcgkicaaa Mem Held Sl Go.Proofs.Ytbippmbcgkicaaa.Range
attribute [local irreducible] wpList wpListIn Calls
def SwapPost (ow : Nat → Nat) (w : World) (r N : Nat) (l : List Cr) (O : List Ol) (x x' : Nm) (e : Ending) (w' : World) : Prop :=
    (e = .returned (.bool false) ∧ ((shwC (absC l) x).1 = false ∨ (shwC (absC l) x').1 = false) ∧ ∃ ow', Ref ow' w' r N l O ∧ Chg ow ow' w w') ∨
    (e = .returned (.bool true) ∧ ∃ (m m' : Nat) (d d' : Cr), l[m]? = some d ∧ d.k = x ∧ d.sh = true ∧ l[m']? = some d' ∧ d'.k = x' ∧ d'.sh = true ∧
      ((m = m' ∧ ∃ ow', Ref ow' w' r N l O ∧ Chg ow ow' w w') ∨ (m ≠ m' ∧ ∃ ow', Ref ow' w' r N ((l.set m ⟨d.k, true, d'.x, d.a⟩).set m' ⟨d'.k, true, d.x, d'.a⟩) O ∧ Chg ow ow' w w')))
section
variable {ow : Nat → Nat} {w : World} {r N : Nat} {l : List Cr} {O : List Ol} {x x' : Nm}
theorem set_show2 {w1 : World} (H : Ref ow w r N l O) (hb : Below w.heap.size w w1) {m : Nat} {d : Cr} (hd : l[m]? = some d) (b : Bool) {y : Bs} (hy : Rd (fun b => ow b = 1 ∨ w.heap.size ≤ b) w1 y) (hN : N ≤ 500000) :
    Calls Try.prog 35 #[.pointer (some ⟨r, 0, none⟩), .int .i64 (m : Int), .agg #[encStr d.k, .bool b, .slice y.A y.n y.c, .slice d.a.A d.a.n d.a.c]] w1 fun res w' => res = .returned (.tuple #[]) ∧ ∃ ow', Ref ow' w' r N (l.set m ⟨d.k, b, y, d.a⟩) O ∧ Chg ow ow' w w' ∧ KeepsP (fun b => w.heap.size ≤ b) w1 w' := by
  obtain ⟨ow1, H1, C1, hf⟩ := H.fresh hb
  have hy1 : Rd (fun b => ow1 b = 1) w1 y := hy.less fun b hb hlt => by
    rcases hb with h | h
    · rw [C1.same b (H.low b (by omega))]; exact h
    · exact hf b h hlt
  refine (set_any H1 (List.getElem?_eq_some_iff.1 hd).1 ((CrOk.of H1 hd).show_ b hy1) hN).mono ?_
  rintro res w' ⟨rfl, ow', H2, C2⟩
  exact ⟨rfl, ow', H2, C1.trans C2, C2.keep.os, C2.keep.tape, C2.keep.output, C2.keep.size, fun b o hb ho => C2.keep.block b o (by show ow1 b ≤ 1; rw [hf b hb (Array.getElem?_eq_some_iff.1 ho).1]; exact Nat.le_refl _) ho⟩
set_option maxRecDepth 100000 in
set_option maxHeartbeats 16000000 in
theorem rswap_any (H : Ref ow w r N l O) (hs : SrtC (absC l)) (hN : N ≤ 500000) : Calls Try.prog 12 #[.pointer (some ⟨r, 0, none⟩), encStr x, encStr x'] w fun e w' =>
    SwapPost ow w r N l O x x' e w' := by
  have hN' : N ≤ 1000000 := by omega
  go_enter Try.func12, Try.ntmps12
  go_wp2_with fail
  refine (shown_any (x := x) H hs hN').mono ?_
  rintro e1 w1 ⟨z, rfl, hz, b1⟩
  have H1 := H.below b1
  go_wp2_with fail
  refine (shown_any (x := x') H1 hs hN').mono ?_
  rintro e1 w2 ⟨z', rfl, hz', b2⟩
  have H2 := H1.below b2
  have b12 := b1.trans (b2.mono b1.size)
  rcases hz with ⟨rfl, hf⟩ | ⟨m, d, rfl, hd, hk, hsd⟩
  · have HF := Lib.hid hf
    clear hf hz'
    go_wp2_with fail
    go_ret
    exact .inl ⟨rfl, .inl HF.out, ow, H2, Chg.below b12 ow⟩
  · have hneg : ¬ ((m : Int) < 0) := by omega
    rcases hz' with ⟨rfl, hf⟩ | ⟨m', d', rfl, hd', hk', hsd'⟩
    · have HF := Lib.hid hf
      clear hf hd hk hsd
      go_wp2_with fail
      go_ret
      exact .inl ⟨rfl, .inr HF.out, ow, H2, Chg.below b12 ow⟩
    · have hneg' : ¬ ((m' : Int) < 0) := by omega
      have HIN := Lib.hid (And.intro hd (And.intro hk (And.intro hsd (And.intro hd' (And.intro hk' hsd')))))
      obtain ⟨A, n, c, A', n', c', hb, HF, -, -⟩ := H2.blk
      have hrl := hb.lt
      have hc0 := hb.cell (i := 0) rfl
      obtain ⟨g, rfl, -, hmn, hgl, hrg, -, -, -, -⟩ := own_at HF.own hd
      obtain ⟨g', e9, -, hmn', -, hrg', -, -, -, -⟩ := own_at HF.own hd'
      injection e9 with e9
      injection e9 with e9
      subst e9
      have hrg : w2.rangeAt g (0 + m * 4) [encStr d.k, .bool true, .slice d.x.A d.x.n d.x.c, .slice d.a.A d.a.n d.a.c] := by unfold Cr.cells at hrg; rw [hsd] at hrg; exact hrg
      have hrg' : w2.rangeAt g (0 + m' * 4) [encStr d'.k, .bool true, .slice d'.x.A d'.x.n d'.x.c, .slice d'.a.A d'.a.n d'.a.c] := by unfold Cr.cells at hrg'; rw [hsd'] at hrg'; exact hrg'
      have HX := Lib.hid (And.intro (CrOk.of H2 hd).x (CrOk.of H2 hd').x)
      clear hb HF
      go_wp2_with fail
      by_cases hmm : m = m'
      · have hmmI : (m : Int) = (m' : Int) := by omega
        have HSET := Lib.hid trivial
        have HOUT := Lib.hid (fun (V : World) (hV : Below w2.heap.size w2 V) => show SwapPost ow w r N l O x x' (.returned (.bool true)) V from .inr ⟨rfl, m, m', d, d', hd, hk, hsd, hd', hk', hsd', .inl ⟨hmm, ow, H2.below hV, Chg.below (b12.trans (hV.mono b12.size)) ow⟩⟩)
        clear hd hk hsd hd' hk' hsd' hmm
        refine wp_region_bar (T := fun W => Below w2.heap.size w2 W) (s := 17) (by kernel_rfl) ?_
        change wpAnyB _ _ _ _ _ _ _ _ _ w2.drew
        have T0 : Below w2.heap.size w2 w2.drew := (Below.refl _ _).drew
        refine Held.takeB (v := .pointer (some ⟨r, 0, none⟩)) 0 (some 23) [17] rfl rfl (by kernel_rfl) (by kernel_rfl) (by kernel_rfl) (by kernel_rfl) (fun _ _ _ h => h) rfl (Held.y_move rfl rfl) T0 ?_
        simp only [Act.put, Z1, Z2, Z3]
        refine Held.takeB (v := .pointer (some ⟨r, 0, none⟩)) 1 (some 24) [17] rfl rfl (by kernel_rfl) (by kernel_rfl) (by kernel_rfl) (by kernel_rfl) (fun _ _ _ h => h) rfl (Sl.y_nil rfl rfl) T0 ?_
        simp only [Act.put, Z1, Z2, Z3]
        refine Held.takeB (v := .pointer (some ⟨r, 0, none⟩)) 2 (some 25) [17] rfl rfl (by kernel_rfl) (by kernel_rfl) (by kernel_rfl) (by kernel_rfl) (fun _ _ _ h => h) rfl (Held.y_field (k := 0) (s := 0) rfl rfl Try.underlying29 rfl (by kernel_rfl) rfl) T0 ?_
        simp only [Act.put, Z1, Z2, Z3]
        refine Held.takeB (v := .slice (some ⟨g, 0, none⟩) n c) 3 (some 26) [17] rfl rfl (by kernel_rfl) (by kernel_rfl) (by kernel_rfl) (by kernel_rfl) (fun _ _ _ h => h) rfl (Held.y_load rfl rfl (by kernel_rfl) (fun W hW => (hW.cell (p := ⟨r, 0, none⟩) hrl).trans hc0)) T0 ?_
        simp only [Act.put, Z1, Z2, Z3]
        refine Held.takeB (v := .int .i64 (m : Int)) 4 (some 27) [17] rfl rfl (by kernel_rfl) (by kernel_rfl) (by kernel_rfl) (by kernel_rfl) (fun _ _ _ h => h) rfl (Held.y_move rfl rfl) T0 ?_
        simp only [Act.put, Z1, Z2, Z3]
        refine Held.takeB (v := .pointer (some ⟨g, 0 + m * 4, none⟩)) 5 (some 28) [17] rfl rfl (by kernel_rfl) (by kernel_rfl) (by kernel_rfl) (by kernel_rfl) (fun _ _ _ h => h) rfl (Held.y_addr rfl rfl rfl (fun W => Rs.run_addr_of (P := Try.prog) 26 77 g 0 n c m 4 .i64 Try.underlying26 (by kernel_rfl) hmn W)) T0 ?_
        simp only [Act.put, Z1, Z2, Z3]
        refine Held.takeB (v := .agg #[encStr d.k, .bool true, .slice d.x.A d.x.n d.x.c, .slice d.a.A d.a.n d.a.c]) 6 (some 29) [17] rfl rfl (by kernel_rfl) (by kernel_rfl) (by kernel_rfl) (by kernel_rfl) (fun _ _ _ h => h) rfl (Rs.y_load_range (cs := [encStr d.k, .bool true, .slice d.x.A d.x.n d.x.c, .slice d.a.A d.a.n d.a.c]) rfl rfl Try.underlying77 rfl (by kernel_rfl) rfl (fun W hW => range_below hrg hW hgl)) T0 ?_
        simp only [Act.put, Z1, Z2, Z3]
        refine Held.takeB (v := .pointer (some ⟨r, 0, none⟩)) 7 (some 30) [17] rfl rfl (by kernel_rfl) (by kernel_rfl) (by kernel_rfl) (by kernel_rfl) (fun _ _ _ h => h) rfl (Held.y_move rfl rfl) T0 ?_
        simp only [Act.put, Z1, Z2, Z3]
        refine Held.takeB (v := .pointer (some ⟨r, 0, none⟩)) 8 (some 31) [17] rfl rfl (by kernel_rfl) (by kernel_rfl) (by kernel_rfl) (by kernel_rfl) (fun _ _ _ h => h) rfl (Sl.y_nil rfl rfl) T0 ?_
        simp only [Act.put, Z1, Z2, Z3]
        refine Held.takeB (v := .pointer (some ⟨r, 0, none⟩)) 9 (some 32) [17] rfl rfl (by kernel_rfl) (by kernel_rfl) (by kernel_rfl) (by kernel_rfl) (fun _ _ _ h => h) rfl (Held.y_field (k := 0) (s := 0) rfl rfl Try.underlying29 rfl (by kernel_rfl) rfl) T0 ?_
        simp only [Act.put, Z1, Z2, Z3]
        refine Held.takeB (v := .slice (some ⟨g, 0, none⟩) n c) 10 (some 33) [17] rfl rfl (by kernel_rfl) (by kernel_rfl) (by kernel_rfl) (by kernel_rfl) (fun _ _ _ h => h) rfl (Held.y_load rfl rfl (by kernel_rfl) (fun W hW => (hW.cell (p := ⟨r, 0, none⟩) hrl).trans hc0)) T0 ?_
        simp only [Act.put, Z1, Z2, Z3]
        refine Held.takeB (v := (.int .i64 (m' : Int))) 11 (some 34) [17] rfl rfl (by kernel_rfl) (by kernel_rfl) (by kernel_rfl) (by kernel_rfl) (fun _ _ _ h => h) rfl (Held.y_move rfl rfl) T0 ?_
        simp only [Act.put, Z1, Z2, Z3]
        refine Held.takeB (v := .pointer (some ⟨g, 0 + m' * 4, none⟩)) 12 (some 35) [17] rfl rfl (by kernel_rfl) (by kernel_rfl) (by kernel_rfl) (by kernel_rfl) (fun _ _ _ h => h) rfl (Held.y_addr rfl rfl rfl (fun W => Rs.run_addr_of (P := Try.prog) 26 77 g 0 n c m' 4 .i64 Try.underlying26 (by kernel_rfl) hmn' W)) T0 ?_
        simp only [Act.put, Z1, Z2, Z3]
        refine Held.takeB (v := .agg #[encStr d'.k, .bool true, .slice d'.x.A d'.x.n d'.x.c, .slice d'.a.A d'.a.n d'.a.c]) 13 (some 36) [17] rfl rfl (by kernel_rfl) (by kernel_rfl) (by kernel_rfl) (by kernel_rfl) (fun _ _ _ h => h) rfl (Rs.y_load_range (cs := [encStr d'.k, .bool true, .slice d'.x.A d'.x.n d'.x.c, .slice d'.a.A d'.a.n d'.a.c]) rfl rfl Try.underlying77 rfl (by kernel_rfl) rfl (fun W hW => range_below hrg' hW hgl)) T0 ?_
        simp only [Act.put, Z1, Z2, Z3]
        refine Held.twoB 14 15 (by kernel_rfl) ?_ ?_
        · refine op_alloc_blk 14 (some 9) 77 #[encStr [], .bool false, .slice none 0 0, .slice none 0 0] rfl rfl rfl rfl (by kernel_rfl) ?_
          intro ga w5 qa ba ha
          have na := Nat.le_trans T0.size ha.out
          have T0 := T0.trans (ba.mono T0.size)
          refine ⟨fun _ => T0, ?_⟩
          simp only [Act.put, Z1, Z2, Z3]
          refine Held.oneB 15 (by kernel_rfl) ?_
          refine op_alloc_blk 15 (some 10) 77 #[encStr [], .bool false, .slice none 0 0, .slice none 0 0] rfl rfl rfl rfl (by kernel_rfl) ?_
          intro gb w6 qb bb hb
          have nb := Nat.le_trans T0.size hb.out
          have T0 := T0.trans (bb.mono T0.size)
          have hab : ga ≠ gb := by have := qa.lt; have := hb.out; omega
          have qa := qa.below bb qa.lt
          refine ⟨fun _ => T0, ?_⟩
          simp only [Act.put, Z1, Z2, Z3]
          refine Held.oneB 16 (by kernel_rfl) ?_
          refine Held.op_store_blk 16 none 77 ga 4 77 _ #[encStr d.k, .bool true, .slice d.x.A d.x.n d.x.c, .slice d.a.A d.a.n d.a.c] rfl rfl rfl rfl rfl rfl qa (by kernel_rfl) rfl rfl (by kernel_rfl) ?_
          intro w7 qa fa
          have qb := qb.grown fa (by intro e; injection e with e; exact hab e.symm)
          have T0 := T0.grown fa T0.size (fun b e => by injection e with e; rw [← e]; exact na)
          refine ⟨fun _ => T0, ?_⟩
          simp only [Act.put]
          refine Held.oneB 17 (by kernel_rfl) ?_
          refine Held.op_store_blk 17 none 77 gb 4 77 _ #[encStr d'.k, .bool true, .slice d'.x.A d'.x.n d'.x.c, .slice d'.a.A d'.a.n d'.a.c] rfl rfl rfl rfl rfl rfl qb (by kernel_rfl) rfl rfl (by kernel_rfl) ?_
          intro w8 qb fb
          have qa := qa.grown fb (by intro e; injection e with e; exact hab e)
          have T0 := T0.grown fb T0.size (fun b e => by injection e with e; rw [← e]; exact nb)
          refine ⟨fun h => (by cases h.symm.trans (show _ = true by kernel_rfl)), ?_⟩
          simp only [Act.put]
          refine Held.doneB (by kernel_rfl) ?_ _
          have qa := qa
          have qb := qb
          have A1 := HSET.out
          go_wp2_with (first
            | (refine Held.wpList_run (w := w8) rfl (v := .slice d'.x.A d'.x.n d'.x.c) (Held.y_load (S := fun W => W = w8) (p := ⟨gb, 2, none⟩) rfl rfl (by kernel_rfl) (fun W hW => hW ▸ qb.cell (i := 2) rfl) _ rfl) ?_)
            | (refine Held.wpList_run (w := w8) rfl (v := .slice d.x.A d.x.n d.x.c) (Held.y_load (S := fun W => W = w8) (p := ⟨ga, 2, none⟩) rfl rfl (by kernel_rfl) (fun W hW => hW ▸ qa.cell (i := 2) rfl) _ rfl) ?_)
            | (refine wpList_store_field (w := w8) rfl 31 _ _ rfl ga 2 rfl 77 _ (.slice d'.x.A d'.x.n d'.x.c) rfl qa (by simp) (by kernel_rfl) rfl rfl ?_; intro u1 qu1 gu1 zu1; have qu1 : Blk u1 ga 77 #[encStr d.k, .bool true, .slice d'.x.A d'.x.n d'.x.c, .slice d.a.A d.a.n d.a.c] := qu1; have qb := qb.grown gu1 (by intro e; injection e with e; exact hab e.symm); have T0 := T0.grown gu1 T0.size (fun b e => by injection e with e; rw [← e]; exact na))
            | (refine wpList_store_field (w := u1) rfl 31 _ _ rfl gb 2 rfl 77 _ (.slice d.x.A d.x.n d.x.c) rfl qb (by simp) (by kernel_rfl) rfl rfl ?_; intro u2 qu2 gu2 zu2; have qu2 : Blk u2 gb 77 #[encStr d'.k, .bool true, .slice d.x.A d.x.n d.x.c, .slice d'.a.A d'.a.n d'.a.c] := qu2; have qa := qu1.grown gu2 (by intro e; injection e with e; exact hab e); have T0 := T0.grown gu2 T0.size (fun b e => by injection e with e; rw [← e]; exact nb))
            | fail)
          have HT := Lib.hid T0
          go_ret
          exact HOUT.out u2 HT.out
        · refine op_alloc_blk 15 (some 10) 77 #[encStr [], .bool false, .slice none 0 0, .slice none 0 0] rfl rfl rfl rfl (by kernel_rfl) ?_
          intro gb w5 qb bb hb
          have nb := Nat.le_trans T0.size hb.out
          have T0 := T0.trans (bb.mono T0.size)
          refine ⟨fun _ => T0, ?_⟩
          simp only [Act.put, Z1, Z2, Z3]
          refine Held.oneB 14 (by kernel_rfl) ?_
          refine op_alloc_blk 14 (some 9) 77 #[encStr [], .bool false, .slice none 0 0, .slice none 0 0] rfl rfl rfl rfl (by kernel_rfl) ?_
          intro ga w6 qa ba ha
          have na := Nat.le_trans T0.size ha.out
          have T0 := T0.trans (ba.mono T0.size)
          have hab : ga ≠ gb := by have := qb.lt; have := ha.out; omega
          have qb := qb.below ba qb.lt
          refine ⟨fun _ => T0, ?_⟩
          simp only [Act.put, Z1, Z2, Z3]
          refine Held.oneB 16 (by kernel_rfl) ?_
          refine Held.op_store_blk 16 none 77 ga 4 77 _ #[encStr d.k, .bool true, .slice d.x.A d.x.n d.x.c, .slice d.a.A d.a.n d.a.c] rfl rfl rfl rfl rfl rfl qa (by kernel_rfl) rfl rfl (by kernel_rfl) ?_
          intro w7 qa fa
          have qb := qb.grown fa (by intro e; injection e with e; exact hab e.symm)
          have T0 := T0.grown fa T0.size (fun b e => by injection e with e; rw [← e]; exact na)
          refine ⟨fun _ => T0, ?_⟩
          simp only [Act.put]
          refine Held.oneB 17 (by kernel_rfl) ?_
          refine Held.op_store_blk 17 none 77 gb 4 77 _ #[encStr d'.k, .bool true, .slice d'.x.A d'.x.n d'.x.c, .slice d'.a.A d'.a.n d'.a.c] rfl rfl rfl rfl rfl rfl qb (by kernel_rfl) rfl rfl (by kernel_rfl) ?_
          intro w8 qb fb
          have qa := qa.grown fb (by intro e; injection e with e; exact hab e)
          have T0 := T0.grown fb T0.size (fun b e => by injection e with e; rw [← e]; exact nb)
          refine ⟨fun h => (by cases h.symm.trans (show _ = true by kernel_rfl)), ?_⟩
          simp only [Act.put]
          refine Held.doneB (by kernel_rfl) ?_ _
          have qa := qa
          have qb := qb
          have A1 := HSET.out
          go_wp2_with (first
            | (refine Held.wpList_run (w := w8) rfl (v := .slice d'.x.A d'.x.n d'.x.c) (Held.y_load (S := fun W => W = w8) (p := ⟨gb, 2, none⟩) rfl rfl (by kernel_rfl) (fun W hW => hW ▸ qb.cell (i := 2) rfl) _ rfl) ?_)
            | (refine Held.wpList_run (w := w8) rfl (v := .slice d.x.A d.x.n d.x.c) (Held.y_load (S := fun W => W = w8) (p := ⟨ga, 2, none⟩) rfl rfl (by kernel_rfl) (fun W hW => hW ▸ qa.cell (i := 2) rfl) _ rfl) ?_)
            | (refine wpList_store_field (w := w8) rfl 31 _ _ rfl ga 2 rfl 77 _ (.slice d'.x.A d'.x.n d'.x.c) rfl qa (by simp) (by kernel_rfl) rfl rfl ?_; intro u1 qu1 gu1 zu1; have qu1 : Blk u1 ga 77 #[encStr d.k, .bool true, .slice d'.x.A d'.x.n d'.x.c, .slice d.a.A d.a.n d.a.c] := qu1; have qb := qb.grown gu1 (by intro e; injection e with e; exact hab e.symm); have T0 := T0.grown gu1 T0.size (fun b e => by injection e with e; rw [← e]; exact na))
            | (refine wpList_store_field (w := u1) rfl 31 _ _ rfl gb 2 rfl 77 _ (.slice d.x.A d.x.n d.x.c) rfl qb (by simp) (by kernel_rfl) rfl rfl ?_; intro u2 qu2 gu2 zu2; have qu2 : Blk u2 gb 77 #[encStr d'.k, .bool true, .slice d.x.A d.x.n d.x.c, .slice d'.a.A d'.a.n d'.a.c] := qu2; have qa := qu1.grown gu2 (by intro e; injection e with e; exact hab e); have T0 := T0.grown gu2 T0.size (fun b e => by injection e with e; rw [← e]; exact nb))
            | fail)
          have HT := Lib.hid T0
          go_ret
          exact HOUT.out u2 HT.out
      · have hmmI : ¬ (m : Int) = (m' : Int) := by omega
        have HSET := Lib.hid (fun (V : World) (hV : Below w2.heap.size w2 V) => set_show2 (w1 := V) H2 hV hd true (y := d'.x) ((HX.out.2.keep (KeepsP.of_below hV)).less fun b hb _ => .inl hb) hN)
        have HSET2 := Lib.hid (fun (ow3 : Nat → Nat) (V : World) (H3 : Ref ow3 V r N (l.set m ⟨d.k, true, d'.x, d.a⟩) O) (C3 : Chg ow ow3 w2 V) => set_show (w1 := V) H3 (Below.refl _ _) (m := m') (d := d') (by rw [List.getElem?_set, if_neg hmm]; exact hd') true (y := d.x) ((C3.rd H2.low HX.out.1).less fun b hb _ => .inl hb) hN)
        have HOUT := Lib.hid (fun (ow4 : Nat → Nat) (V : World) (H4 : Ref ow4 V r N ((l.set m ⟨d.k, true, d'.x, d.a⟩).set m' ⟨d'.k, true, d.x, d'.a⟩) O) (C4 : Chg ow ow4 w2 V) => show SwapPost ow w r N l O x x' (.returned (.bool true)) V from .inr ⟨rfl, m, m', d, d', hd, hk, hsd, hd', hk', hsd', .inr ⟨hmm, ow4, H4, (Chg.below b12 ow).trans C4⟩⟩)
        clear hd hk hsd hd' hk' hsd' hmm
        refine wp_region_bar (T := fun W => Below w2.heap.size w2 W) (s := 17) (by kernel_rfl) ?_
        change wpAnyB _ _ _ _ _ _ _ _ _ w2.drew
        have T0 : Below w2.heap.size w2 w2.drew := (Below.refl _ _).drew
        refine Held.takeB (v := .pointer (some ⟨r, 0, none⟩)) 0 (some 23) [17] rfl rfl (by kernel_rfl) (by kernel_rfl) (by kernel_rfl) (by kernel_rfl) (fun _ _ _ h => h) rfl (Held.y_move rfl rfl) T0 ?_
        simp only [Act.put, Z1, Z2, Z3]
        refine Held.takeB (v := .pointer (some ⟨r, 0, none⟩)) 1 (some 24) [17] rfl rfl (by kernel_rfl) (by kernel_rfl) (by kernel_rfl) (by kernel_rfl) (fun _ _ _ h => h) rfl (Sl.y_nil rfl rfl) T0 ?_
        simp only [Act.put, Z1, Z2, Z3]
        refine Held.takeB (v := .pointer (some ⟨r, 0, none⟩)) 2 (some 25) [17] rfl rfl (by kernel_rfl) (by kernel_rfl) (by kernel_rfl) (by kernel_rfl) (fun _ _ _ h => h) rfl (Held.y_field (k := 0) (s := 0) rfl rfl Try.underlying29 rfl (by kernel_rfl) rfl) T0 ?_
        simp only [Act.put, Z1, Z2, Z3]
        refine Held.takeB (v := .slice (some ⟨g, 0, none⟩) n c) 3 (some 26) [17] rfl rfl (by kernel_rfl) (by kernel_rfl) (by kernel_rfl) (by kernel_rfl) (fun _ _ _ h => h) rfl (Held.y_load rfl rfl (by kernel_rfl) (fun W hW => (hW.cell (p := ⟨r, 0, none⟩) hrl).trans hc0)) T0 ?_
        simp only [Act.put, Z1, Z2, Z3]
        refine Held.takeB (v := .int .i64 (m : Int)) 4 (some 27) [17] rfl rfl (by kernel_rfl) (by kernel_rfl) (by kernel_rfl) (by kernel_rfl) (fun _ _ _ h => h) rfl (Held.y_move rfl rfl) T0 ?_
        simp only [Act.put, Z1, Z2, Z3]
        refine Held.takeB (v := .pointer (some ⟨g, 0 + m * 4, none⟩)) 5 (some 28) [17] rfl rfl (by kernel_rfl) (by kernel_rfl) (by kernel_rfl) (by kernel_rfl) (fun _ _ _ h => h) rfl (Held.y_addr rfl rfl rfl (fun W => Rs.run_addr_of (P := Try.prog) 26 77 g 0 n c m 4 .i64 Try.underlying26 (by kernel_rfl) hmn W)) T0 ?_
        simp only [Act.put, Z1, Z2, Z3]
        refine Held.takeB (v := .agg #[encStr d.k, .bool true, .slice d.x.A d.x.n d.x.c, .slice d.a.A d.a.n d.a.c]) 6 (some 29) [17] rfl rfl (by kernel_rfl) (by kernel_rfl) (by kernel_rfl) (by kernel_rfl) (fun _ _ _ h => h) rfl (Rs.y_load_range (cs := [encStr d.k, .bool true, .slice d.x.A d.x.n d.x.c, .slice d.a.A d.a.n d.a.c]) rfl rfl Try.underlying77 rfl (by kernel_rfl) rfl (fun W hW => range_below hrg hW hgl)) T0 ?_
        simp only [Act.put, Z1, Z2, Z3]
        refine Held.takeB (v := .pointer (some ⟨r, 0, none⟩)) 7 (some 30) [17] rfl rfl (by kernel_rfl) (by kernel_rfl) (by kernel_rfl) (by kernel_rfl) (fun _ _ _ h => h) rfl (Held.y_move rfl rfl) T0 ?_
        simp only [Act.put, Z1, Z2, Z3]
        refine Held.takeB (v := .pointer (some ⟨r, 0, none⟩)) 8 (some 31) [17] rfl rfl (by kernel_rfl) (by kernel_rfl) (by kernel_rfl) (by kernel_rfl) (fun _ _ _ h => h) rfl (Sl.y_nil rfl rfl) T0 ?_
        simp only [Act.put, Z1, Z2, Z3]
        refine Held.takeB (v := .pointer (some ⟨r, 0, none⟩)) 9 (some 32) [17] rfl rfl (by kernel_rfl) (by kernel_rfl) (by kernel_rfl) (by kernel_rfl) (fun _ _ _ h => h) rfl (Held.y_field (k := 0) (s := 0) rfl rfl Try.underlying29 rfl (by kernel_rfl) rfl) T0 ?_
        simp only [Act.put, Z1, Z2, Z3]
        refine Held.takeB (v := .slice (some ⟨g, 0, none⟩) n c) 10 (some 33) [17] rfl rfl (by kernel_rfl) (by kernel_rfl) (by kernel_rfl) (by kernel_rfl) (fun _ _ _ h => h) rfl (Held.y_load rfl rfl (by kernel_rfl) (fun W hW => (hW.cell (p := ⟨r, 0, none⟩) hrl).trans hc0)) T0 ?_
        simp only [Act.put, Z1, Z2, Z3]
        refine Held.takeB (v := (.int .i64 (m' : Int))) 11 (some 34) [17] rfl rfl (by kernel_rfl) (by kernel_rfl) (by kernel_rfl) (by kernel_rfl) (fun _ _ _ h => h) rfl (Held.y_move rfl rfl) T0 ?_
        simp only [Act.put, Z1, Z2, Z3]
        refine Held.takeB (v := .pointer (some ⟨g, 0 + m' * 4, none⟩)) 12 (some 35) [17] rfl rfl (by kernel_rfl) (by kernel_rfl) (by kernel_rfl) (by kernel_rfl) (fun _ _ _ h => h) rfl (Held.y_addr rfl rfl rfl (fun W => Rs.run_addr_of (P := Try.prog) 26 77 g 0 n c m' 4 .i64 Try.underlying26 (by kernel_rfl) hmn' W)) T0 ?_
        simp only [Act.put, Z1, Z2, Z3]
        refine Held.takeB (v := .agg #[encStr d'.k, .bool true, .slice d'.x.A d'.x.n d'.x.c, .slice d'.a.A d'.a.n d'.a.c]) 13 (some 36) [17] rfl rfl (by kernel_rfl) (by kernel_rfl) (by kernel_rfl) (by kernel_rfl) (fun _ _ _ h => h) rfl (Rs.y_load_range (cs := [encStr d'.k, .bool true, .slice d'.x.A d'.x.n d'.x.c, .slice d'.a.A d'.a.n d'.a.c]) rfl rfl Try.underlying77 rfl (by kernel_rfl) rfl (fun W hW => range_below hrg' hW hgl)) T0 ?_
        simp only [Act.put, Z1, Z2, Z3]
        refine Held.twoB 14 15 (by kernel_rfl) ?_ ?_
        · refine op_alloc_blk 14 (some 9) 77 #[encStr [], .bool false, .slice none 0 0, .slice none 0 0] rfl rfl rfl rfl (by kernel_rfl) ?_
          intro ga w5 qa ba ha
          have na := Nat.le_trans T0.size ha.out
          have T0 := T0.trans (ba.mono T0.size)
          refine ⟨fun _ => T0, ?_⟩
          simp only [Act.put, Z1, Z2, Z3]
          refine Held.oneB 15 (by kernel_rfl) ?_
          refine op_alloc_blk 15 (some 10) 77 #[encStr [], .bool false, .slice none 0 0, .slice none 0 0] rfl rfl rfl rfl (by kernel_rfl) ?_
          intro gb w6 qb bb hb
          have nb := Nat.le_trans T0.size hb.out
          have T0 := T0.trans (bb.mono T0.size)
          have hab : ga ≠ gb := by have := qa.lt; have := hb.out; omega
          have qa := qa.below bb qa.lt
          refine ⟨fun _ => T0, ?_⟩
          simp only [Act.put, Z1, Z2, Z3]
          refine Held.oneB 16 (by kernel_rfl) ?_
          refine Held.op_store_blk 16 none 77 ga 4 77 _ #[encStr d.k, .bool true, .slice d.x.A d.x.n d.x.c, .slice d.a.A d.a.n d.a.c] rfl rfl rfl rfl rfl rfl qa (by kernel_rfl) rfl rfl (by kernel_rfl) ?_
          intro w7 qa fa
          have qb := qb.grown fa (by intro e; injection e with e; exact hab e.symm)
          have T0 := T0.grown fa T0.size (fun b e => by injection e with e; rw [← e]; exact na)
          refine ⟨fun _ => T0, ?_⟩
          simp only [Act.put]
          refine Held.oneB 17 (by kernel_rfl) ?_
          refine Held.op_store_blk 17 none 77 gb 4 77 _ #[encStr d'.k, .bool true, .slice d'.x.A d'.x.n d'.x.c, .slice d'.a.A d'.a.n d'.a.c] rfl rfl rfl rfl rfl rfl qb (by kernel_rfl) rfl rfl (by kernel_rfl) ?_
          intro w8 qb fb
          have qa := qa.grown fb (by intro e; injection e with e; exact hab e)
          have T0 := T0.grown fb T0.size (fun b e => by injection e with e; rw [← e]; exact nb)
          refine ⟨fun h => (by cases h.symm.trans (show _ = true by kernel_rfl)), ?_⟩
          simp only [Act.put]
          refine Held.doneB (by kernel_rfl) ?_ _
          have qa := qa
          have qb := qb
          have A1 := HSET.out
          go_wp2_with (first
            | (refine Held.wpList_run (w := w8) rfl (v := .slice d'.x.A d'.x.n d'.x.c) (Held.y_load (S := fun W => W = w8) (p := ⟨gb, 2, none⟩) rfl rfl (by kernel_rfl) (fun W hW => hW ▸ qb.cell (i := 2) rfl) _ rfl) ?_)
            | (refine Held.wpList_run (w := w8) rfl (v := .slice d.x.A d.x.n d.x.c) (Held.y_load (S := fun W => W = w8) (p := ⟨ga, 2, none⟩) rfl rfl (by kernel_rfl) (fun W hW => hW ▸ qa.cell (i := 2) rfl) _ rfl) ?_)
            | (refine wpList_store_field (w := w8) rfl 31 _ _ rfl ga 2 rfl 77 _ (.slice d'.x.A d'.x.n d'.x.c) rfl qa (by simp) (by kernel_rfl) rfl rfl ?_; intro u1 qu1 gu1 zu1; have qu1 : Blk u1 ga 77 #[encStr d.k, .bool true, .slice d'.x.A d'.x.n d'.x.c, .slice d.a.A d.a.n d.a.c] := qu1; have qb := qb.grown gu1 (by intro e; injection e with e; exact hab e.symm); have T0 := T0.grown gu1 T0.size (fun b e => by injection e with e; rw [← e]; exact na))
            | (refine wpList_store_field (w := u1) rfl 31 _ _ rfl gb 2 rfl 77 _ (.slice d.x.A d.x.n d.x.c) rfl qb (by simp) (by kernel_rfl) rfl rfl ?_; intro u2 qu2 gu2 zu2; have qu2 : Blk u2 gb 77 #[encStr d'.k, .bool true, .slice d.x.A d.x.n d.x.c, .slice d'.a.A d'.a.n d'.a.c] := qu2; have qa := qu1.grown gu2 (by intro e; injection e with e; exact hab e); have T0 := T0.grown gu2 T0.size (fun b e => by injection e with e; rw [← e]; exact nb))
            | (refine wpList_load_blk (w := u2) rfl 77 _ rfl ga 4 rfl 77 #[encStr d.k, .bool true, .slice d'.x.A d'.x.n d'.x.c, .slice d.a.A d.a.n d.a.c] qa _ Try.underlying77 rfl (by kernel_rfl) rfl ?_))
          refine (A1 u2 T0).mono ?_
          rintro e3 u3 ⟨rfl, ow3, H3, C3, K3⟩
          have qb3 : Blk u3 gb 77 #[encStr d'.k, .bool true, .slice d.x.A d.x.n d.x.c, .slice d'.a.A d'.a.n d'.a.c] := K3.block gb _ nb qu2
          have A2 := HSET2.out ow3 u3 H3 C3
          clear qa K3 A1
          go_wp2_with (first
            | (refine wpList_load_blk (w := u3) rfl 77 _ rfl gb 4 rfl 77 #[encStr d'.k, .bool true, .slice d.x.A d.x.n d.x.c, .slice d'.a.A d'.a.n d'.a.c] qb3 _ Try.underlying77 rfl (by kernel_rfl) rfl ?_))
          refine A2.mono ?_
          rintro e4 u4 ⟨rfl, ow4, H4, C4⟩
          have HH := Lib.hid (And.intro H4 (C3.trans C4))
          clear H4 C4 C3 H3 A2 qb3
          go_wp2_with fail
          go_ret
          exact HOUT.out ow4 u4 HH.out.1 HH.out.2
        · refine op_alloc_blk 15 (some 10) 77 #[encStr [], .bool false, .slice none 0 0, .slice none 0 0] rfl rfl rfl rfl (by kernel_rfl) ?_
          intro gb w5 qb bb hb
          have nb := Nat.le_trans T0.size hb.out
          have T0 := T0.trans (bb.mono T0.size)
          refine ⟨fun _ => T0, ?_⟩
          simp only [Act.put, Z1, Z2, Z3]
          refine Held.oneB 14 (by kernel_rfl) ?_
          refine op_alloc_blk 14 (some 9) 77 #[encStr [], .bool false, .slice none 0 0, .slice none 0 0] rfl rfl rfl rfl (by kernel_rfl) ?_
          intro ga w6 qa ba ha
          have na := Nat.le_trans T0.size ha.out
          have T0 := T0.trans (ba.mono T0.size)
          have hab : ga ≠ gb := by have := qb.lt; have := ha.out; omega
          have qb := qb.below ba qb.lt
          refine ⟨fun _ => T0, ?_⟩
          simp only [Act.put, Z1, Z2, Z3]
          refine Held.oneB 16 (by kernel_rfl) ?_
          refine Held.op_store_blk 16 none 77 ga 4 77 _ #[encStr d.k, .bool true, .slice d.x.A d.x.n d.x.c, .slice d.a.A d.a.n d.a.c] rfl rfl rfl rfl rfl rfl qa (by kernel_rfl) rfl rfl (by kernel_rfl) ?_
          intro w7 qa fa
          have qb := qb.grown fa (by intro e; injection e with e; exact hab e.symm)
          have T0 := T0.grown fa T0.size (fun b e => by injection e with e; rw [← e]; exact na)
          refine ⟨fun _ => T0, ?_⟩
          simp only [Act.put]
          refine Held.oneB 17 (by kernel_rfl) ?_
          refine Held.op_store_blk 17 none 77 gb 4 77 _ #[encStr d'.k, .bool true, .slice d'.x.A d'.x.n d'.x.c, .slice d'.a.A d'.a.n d'.a.c] rfl rfl rfl rfl rfl rfl qb (by kernel_rfl) rfl rfl (by kernel_rfl) ?_
          intro w8 qb fb
          have qa := qa.grown fb (by intro e; injection e with e; exact hab e)
          have T0 := T0.grown fb T0.size (fun b e => by injection e with e; rw [← e]; exact nb)
          refine ⟨fun h => (by cases h.symm.trans (show _ = true by kernel_rfl)), ?_⟩
          simp only [Act.put]
          refine Held.doneB (by kernel_rfl) ?_ _
          have qa := qa
          have qb := qb
          have A1 := HSET.out
          go_wp2_with (first
            | (refine Held.wpList_run (w := w8) rfl (v := .slice d'.x.A d'.x.n d'.x.c) (Held.y_load (S := fun W => W = w8) (p := ⟨gb, 2, none⟩) rfl rfl (by kernel_rfl) (fun W hW => hW ▸ qb.cell (i := 2) rfl) _ rfl) ?_)
            | (refine Held.wpList_run (w := w8) rfl (v := .slice d.x.A d.x.n d.x.c) (Held.y_load (S := fun W => W = w8) (p := ⟨ga, 2, none⟩) rfl rfl (by kernel_rfl) (fun W hW => hW ▸ qa.cell (i := 2) rfl) _ rfl) ?_)
            | (refine wpList_store_field (w := w8) rfl 31 _ _ rfl ga 2 rfl 77 _ (.slice d'.x.A d'.x.n d'.x.c) rfl qa (by simp) (by kernel_rfl) rfl rfl ?_; intro u1 qu1 gu1 zu1; have qu1 : Blk u1 ga 77 #[encStr d.k, .bool true, .slice d'.x.A d'.x.n d'.x.c, .slice d.a.A d.a.n d.a.c] := qu1; have qb := qb.grown gu1 (by intro e; injection e with e; exact hab e.symm); have T0 := T0.grown gu1 T0.size (fun b e => by injection e with e; rw [← e]; exact na))
            | (refine wpList_store_field (w := u1) rfl 31 _ _ rfl gb 2 rfl 77 _ (.slice d.x.A d.x.n d.x.c) rfl qb (by simp) (by kernel_rfl) rfl rfl ?_; intro u2 qu2 gu2 zu2; have qu2 : Blk u2 gb 77 #[encStr d'.k, .bool true, .slice d.x.A d.x.n d.x.c, .slice d'.a.A d'.a.n d'.a.c] := qu2; have qa := qu1.grown gu2 (by intro e; injection e with e; exact hab e); have T0 := T0.grown gu2 T0.size (fun b e => by injection e with e; rw [← e]; exact nb))
            | (refine wpList_load_blk (w := u2) rfl 77 _ rfl ga 4 rfl 77 #[encStr d.k, .bool true, .slice d'.x.A d'.x.n d'.x.c, .slice d.a.A d.a.n d.a.c] qa _ Try.underlying77 rfl (by kernel_rfl) rfl ?_))
          refine (A1 u2 T0).mono ?_
          rintro e3 u3 ⟨rfl, ow3, H3, C3, K3⟩
          have qb3 : Blk u3 gb 77 #[encStr d'.k, .bool true, .slice d.x.A d.x.n d.x.c, .slice d'.a.A d'.a.n d'.a.c] := K3.block gb _ nb qu2
          have A2 := HSET2.out ow3 u3 H3 C3
          clear qa K3 A1
          go_wp2_with (first
            | (refine wpList_load_blk (w := u3) rfl 77 _ rfl gb 4 rfl 77 #[encStr d'.k, .bool true, .slice d.x.A d.x.n d.x.c, .slice d'.a.A d'.a.n d'.a.c] qb3 _ Try.underlying77 rfl (by kernel_rfl) rfl ?_))
          refine A2.mono ?_
          rintro e4 u4 ⟨rfl, ow4, H4, C4⟩
          have HH := Lib.hid (And.intro H4 (C3.trans C4))
          clear H4 C4 C3 H3 A2 qb3
          go_wp2_with fail
          go_ret
          exact HOUT.out ow4 u4 HH.out.1 HH.out.2
end
end Go.Proofs.Ytbippmbcgkicaaa.Sto
namespace Go.Proofs.Ytbippmbcgkicaaa.Sto
open Go.RowKit Go.Shelf Go.Proofs.Ytbippmbcgkicaaa Mem Held Sl Go.Proofs.Ytbippmbcgkicaaa.Range
attribute [local irreducible] wpList wpListIn Calls
section
variable {α : Type} {k : St α} {w : World}
theorem flat_setC {f : α} {u : Value} {j : Nat} (hj : j < k.s) : ∀ (xs : List α) (i : Nat), i < xs.length → k.cells f = (k.cells (xs.getD i k.d)).set j u → Sl.flat k (xs.set i f) = (Sl.flat k xs).set (i * k.s + j) u
  | [], i, h, _ => absurd h (by simp)
  | x :: xs, 0, _, hf => by
    simp only [Sl.flat, List.set_cons_zero, List.flatMap_cons, Nat.zero_mul, Nat.zero_add, List.getD_cons_zero] at hf ⊢
    rw [hf, List.set_append_left _ _ (by rw [k.len]; exact hj)]
  | x :: xs, i + 1, h, hf => by
    have ih := flat_setC hj xs i (by simpa using h) (by simpa using hf)
    simp only [Sl.flat, List.set_cons_succ, List.flatMap_cons] at ih ⊢
    rw [ih, List.set_append_right _ _ (by rw [k.len, Nat.add_mul]; omega), k.len, show (i + 1) * k.s + j - k.s = i * k.s + j by rw [Nat.add_mul]; omega]
theorem own_setC {e : TypeId} {base g n cap i j : Nat} {xs : List α} (f : α) (u : Value) (hown : OwnL k e w base (.slice (some ⟨g, 0, none⟩) n cap) xs) (hi : i < xs.length) (hj : j < k.s) (hf : k.cells f = (k.cells (xs.getD i k.d)).set j u) :
    (∃ v, w.cell? ⟨g, 0 + i * k.s + j, none⟩ = some v) ∧ w.frozen? ⟨g, 0 + i * k.s + j, none⟩ = false ∧ OwnL k e (w.setCell ⟨g, 0 + i * k.s + j, none⟩ u) base (.slice (some ⟨g, 0, none⟩) n cap) (xs.set i f) := by
  rw [Nat.zero_add]
  rcases hown.2 with ⟨e', _⟩ | ⟨g', cap', cur, e', hb, hg, hnc, hcm, hcs, ht⟩
  · cases e'
  · injection e' with e1 e2 e3
    injection e1 with e1
    injection e1 with e1
    subst e1
    subst e3
    have hle : (i + 1) * k.s ≤ cap * k.s := Nat.mul_le_mul_right _ (by omega)
    have hle2 : (i + 1) * k.s ≤ xs.length * k.s := Nat.mul_le_mul_right _ (by omega)
    rw [Nat.add_mul, Nat.one_mul] at hle hle2
    have hlt : i * k.s + j < cur.size := by omega
    have hb' : Blk (w.setCell ⟨g, i * k.s + j, none⟩ u) g e (cur.setIfInBounds (i * k.s + j) u) := Blk.set (w := w) (cs := cur) hg _ _
    refine ⟨⟨cur[i * k.s + j], by rw [cell_of_row w g _ _ _ (0, 0) hg]; exact Array.getElem?_eq_getElem hlt⟩, by simp [World.frozen?, hg], Sl.flat_length k _, .inr ⟨g, cap, _, by rw [List.length_set]; exact congrArg (fun n => Value.slice (some ⟨g, 0, none⟩) n cap) e2, hb, hb', by rw [List.length_set]; exact hnc, hcm, by rw [Array.size_setIfInBounds]; exact hcs, ?_⟩⟩
    rw [List.length_set, Array.toList_setIfInBounds, flat_setC hj xs i hi hf, List.take_set, ht]
end
section
variable {α : Type} {k : St α} {P : Program} {ops : Array Oper} {rest : List Oper} {o : Oper} {a : Act} {w : World} {Q : Exit → Act → World → Prop}
theorem op_store_ownC (m : Nat) (d : Option Tmp) {K : Act → World → Prop} (ty : TypeId) {x y : Operand} (e : TypeId) (base g n cap off i j : Nat) (xs : List α) (f : α) (u : Value) (hi : ops[m]? = some o) (hd : o.dst = d) (hw : Region.wanted o (yielded ops a.tmps) = true)
    (ho : o.op = .store ty x y) (hsz : (P.info? ty).map (·.size) = some 1) (hx : a.eval x = .pointer (some ⟨g, off, none⟩)) (hoff : off = 0 + i * k.s + j) (hy : a.eval y = u) (h1 : u.cells = #[u]) (ho1 : u.oneCell' = true) (hown : OwnL k e w base (.slice (some ⟨g, 0, none⟩) n cap) xs) (hlt : i < xs.length) (hj : j < k.s) (hf : k.cells f = (k.cells (xs.getD i k.d)).set j u)
    (h : ∀ w', OwnL k e w' base (.slice (some ⟨g, 0, none⟩) n cap) (xs.set i f) → w.grownBy w' (some g) → K (a.put d undef) w') : wpOp P ops Q m K a w := by
  subst hd
  subst hoff
  refine op_wp m hi hw ?_
  obtain ⟨⟨v, h2⟩, h3, h4⟩ := own_setC f u hown hlt hj hf
  unfold Oper.wp execOp
  simp only [ho, hx, hy, Instr.storeAt, Instr.sureAddr, Sem.run_bind, Sem.run_pure, Result.andThen_ok, run_store_elem ty g _ v u h2 h3 hsz h1 ho1]
  exact h _ h4 (grown_setCell _ _ _ _)
theorem wpList_store_ownC (hw : Region.wanted o (yielded ops a.tmps) = true) (ty : TypeId) (x y : Operand) (e : TypeId) (base g n cap off i j : Nat) (xs : List α) (f : α) (u : Value) (ho : o.op = .store ty x y) (hsz : (P.info? ty).map (·.size) = some 1) (hx : a.eval x = .pointer (some ⟨g, off, none⟩)) (hoff : off = 0 + i * k.s + j)
    (hy : a.eval y = u) (h1 : u.cells = #[u]) (ho1 : u.oneCell' = true) (hown : OwnL k e w base (.slice (some ⟨g, 0, none⟩) n cap) xs) (hlt : i < xs.length) (hj : j < k.s) (hf : k.cells f = (k.cells (xs.getD i k.d)).set j u)
    (h : ∀ w', OwnL k e w' base (.slice (some ⟨g, 0, none⟩) n cap) (xs.set i f) → w.grownBy w' (some g) → wpList P ops Q rest (a.put o.dst undef) w') : wpList P ops Q (o :: rest) a w := by
  subst hoff
  obtain ⟨⟨v, h2⟩, h3, h4⟩ := own_setC f u hown hlt hj hf
  refine wpList_step fun _ hK => ?_
  rw [if_pos hw]
  unfold Oper.wp execOp
  simp only [ho, hx, hy, Instr.storeAt, Instr.sureAddr, Sem.run_bind, Sem.run_pure, Result.andThen_ok, run_store_elem ty g _ v u h2 h3 hsz h1 ho1]
  exact hK _ _ (h _ h4 (grown_setCell _ _ _ _))
end
def shI (os : List Cr) (x : Nm) (i : Nat) : Bool × Bs := (os.take i).foldl (fun a c => if c.k = x then (c.sh, c.x) else a) (false, Bs.nil)
theorem shI_step {os : List Cr} {i : Nat} {c : Cr} (h : os[i]? = some c) (x : Nm) : shI os x (i + 1) = if c.k = x then (c.sh, c.x) else shI os x i := by
  unfold shI
  rw [List.take_add_one, h, List.foldl_append]
  rfl
theorem shI_bs (os : List Cr) (x : Nm) : ∀ i, (shI os x i).2 = Bs.nil ∨ ∃ c ∈ os, (shI os x i).2 = c.x
  | 0 => .inl rfl
  | i + 1 => by
    cases h : os[i]? with
    | none =>
      have hl := List.getElem?_eq_none_iff.1 h
      have e : shI os x (i + 1) = shI os x i := by unfold shI; rw [List.take_of_length_le (by omega), List.take_of_length_le hl]
      rw [e]
      exact shI_bs os x i
    | some c =>
      rw [shI_step h]
      split
      · exact .inr ⟨c, List.mem_of_getElem? h, rfl⟩
      · exact shI_bs os x i
theorem entC_app (x : List UInt8) (M : List Cp) : ∀ l : List Cp, entC (l ++ M) x = (entC l x).or (entC M x)
  | [] => by simp [entC]
  | p :: l => by
    rw [List.cons_append, entC, entC, entC_app x M l]
    split <;> simp
theorem shI_abs {os : List Cr} (hd : ((absC os).map (·.k)).Nodup) (x : Nm) : ∀ i, ((shI os x i).1, (shI os x i).2.zs) = shwC (absC (os.take i)) x
  | 0 => rfl
  | i + 1 => by
    have ih := shI_abs hd x i
    cases h : os[i]? with
    | none =>
      have hl := List.getElem?_eq_none_iff.1 h
      have e : shI os x (i + 1) = shI os x i := by unfold shI; rw [List.take_of_length_le (by omega), List.take_of_length_le hl]
      rw [e, ih, List.take_of_length_le hl, List.take_of_length_le (by omega)]
    | some c =>
      have hlt := (List.getElem?_eq_some_iff.1 h).1
      have e : absC (os.take (i + 1)) = absC (os.take i) ++ [c.p] := by unfold absC; rw [List.take_add_one, h, List.map_append]; rfl
      rw [shI_step h, e]
      unfold shwC at ih ⊢
      rw [entC_app]
      by_cases hc : c.k = x
      · rw [if_pos hc]
        have hn : entC (absC (os.take i)) x = none := by
          refine entC_none.2 fun hx => ?_
          have hsp : absC os = absC (os.take i) ++ absC (os.drop i) := by unfold absC; rw [← List.map_append, List.take_append_drop]
          rw [hsp, List.map_append, List.nodup_append] at hd
          refine hd.2.2 _ hx x ?_ rfl
          have hdr : os.drop i = c :: os.drop (i + 1) := by rw [List.drop_eq_getElem_cons hlt]; congr 1; exact (List.getElem?_eq_some_iff.1 h).2
          rw [hdr]
          simp [absC, Cr.p, hc]
        rw [hn]
        have : c.p.k = x := hc
        simp [entC, this]
        exact ⟨rfl, rfl⟩
      · rw [if_neg hc, ih]
        have : ¬ c.p.k = x := hc
        cases entC (absC (os.take i)) x <;> simp [entC, this]
def rolR (os : List Cr) (l : List Cr) : List Cr := l.map fun e => ⟨e.k, (shI os e.k os.length).1, (shI os e.k os.length).2, e.a⟩
theorem rolR_abs {os l : List Cr} (hs : SrtC (absC os)) : absC (rolR os l) = rolC (absC os) (absC l) := by
  unfold rolR rolC absC
  rw [List.map_map, List.map_map]
  refine List.map_congr_left fun e _ => ?_
  have h := shI_abs (srt_nodup hs) e.k os.length
  rw [List.take_of_length_le (Nat.le_refl _)] at h
  show (⟨e.k, (shI os e.k os.length).1, (shI os e.k os.length).2.zs, e.a.ys.map (·.zs)⟩ : Cp) = ⟨e.k, (shwC (absC os) e.k).1, (shwC (absC os) e.k).2, e.a.ys.map (·.zs)⟩
  rw [← h]
def rolM (os l : List Cr) (m : Nat) : List Cr := rolR os (l.take m) ++ l.drop m
theorem rolM_zero (os l : List Cr) : rolM os l 0 = l := rfl
theorem rolM_all {os l : List Cr} {m : Nat} (h : l.length ≤ m) : rolM os l m = rolR os l := by unfold rolM; rw [List.take_of_length_le h, List.drop_of_length_le h, List.append_nil]
theorem rolM_len (os l : List Cr) (m : Nat) : (rolM os l m).length = l.length := by unfold rolM rolR; simp; omega
theorem rolM_at {os l : List Cr} {m : Nat} {e : Cr} (h : l[m]? = some e) : (rolM os l m)[m]? = some e := by
  have hlt := (List.getElem?_eq_some_iff.1 h).1
  unfold rolM rolR
  rw [List.getElem?_append_right (by simp; omega), List.length_map, List.length_take, Nat.min_eq_left (by omega), Nat.sub_self, List.getElem?_drop, Nat.add_zero]
  exact h
theorem rolM_step {os l : List Cr} {m : Nat} {e : Cr} (h : l[m]? = some e) : rolM os l (m + 1) = (rolM os l m).set m ⟨e.k, (shI os e.k os.length).1, (shI os e.k os.length).2, e.a⟩ := by
  have hlt := (List.getElem?_eq_some_iff.1 h).1
  have hdr : l.drop m = e :: l.drop (m + 1) := by rw [List.drop_eq_getElem_cons hlt]; congr 1; exact (List.getElem?_eq_some_iff.1 h).2
  unfold rolM rolR
  rw [List.set_append_right _ _ (by simp; omega), List.length_map, List.length_take, Nat.min_eq_left (by omega), Nat.sub_self, hdr, List.set_cons_zero, List.take_add_one, h, List.map_append, List.append_assoc]
  rfl
end Go.Proofs.Ytbippmbcgkicaaa.Sto
namespace Go.Proofs.Ytbippmbcgkicaaa.Mg
open Go.RowKit Go.Shelf Go.Proofs.Ytbippmbcgkicaaa Mem Held Ct Rc Rs Sl
attribute [local irreducible] wpList wpListIn Calls
theorem run_front_nil {P : Program} {t e : TypeId} (sz : Nat) (ht : P.underlying t = some (.slice e)) (hs : (P.info? e).map (·.size) = some sz) (w : World) : (Instr.sliceAt t (.slice none 0 0) none (some (.int .i64 0)) none).run P w = .ok (.slice none 0 0) w := by
  have he : P.elem t = e := by simp [Program.elem, ht]
  have ht' : P.underlying t = some (.slice (P.elem t)) := by rw [he]; exact ht
  obtain ⟨inf, hi, h1⟩ := Option.map_eq_some_iff.1 hs
  have hz : (sizeOf e).run P w = .ok sz w := by simp [sizeOf, typeInfo, hi, h1]
  rw [run_sliceAt_slice w t _ _ _ _ ht', run_slice_h w t _ 0 0 ht' .i64 0 (by omega) (by omega), he, hz]
  rfl
theorem run_back_nil {P : Program} {t e : TypeId} (sz : Nat) (ht : P.underlying t = some (.slice e)) (hs : (P.info? e).map (·.size) = some sz) (A : Option Addr) (n cap : Nat) : ∃ A' c', ∀ w : World, (Instr.sliceAt t (.slice A n cap) (some (.int .i64 (n : Int))) none none).run P w = .ok (.slice A' 0 c') w := by
  have he : P.elem t = e := by simp [Program.elem, ht]
  have ht' : P.underlying t = some (.slice (P.elem t)) := by rw [he]; exact ht
  obtain ⟨inf, hi, h1⟩ := Option.map_eq_some_iff.1 hs
  refine ⟨if cap = n then A else A.map (·.add (n * sz)), cap - n, fun w => ?_⟩
  have hz : (sizeOf e).run P w = .ok sz w := by simp [sizeOf, typeInfo, hi, h1]
  rw [run_sliceAt_slice w t _ _ _ _ ht', run_slice_l w t _ n cap ht' .i64 _ (by omega) (by omega), he, hz]
  simp only [Result.andThen, sliced, Int.toNat_natCast, Nat.sub_self]
end Go.Proofs.Ytbippmbcgkicaaa.Mg
