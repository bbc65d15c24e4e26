/-
  The document's store: what somebody else does (Delete, Replay, Flip, Swap), by their contracts.
  The document's store: a bit of what a name shows turned (Flip), by its contract.
-/
import Derived.Test.YtbippmbcgkicaaaB10
set_option linter.unusedVariables false
namespace Go.Proofs.Ytbippmbcgkicaaa.Sto
open Go.RowKit Go.Shelf Go.Proofs.Ytbippmbcgkicaaa Mem Held Sl Go.Proofs.Ytbippmbcgkicaaa.Range
attribute [local irreducible] wpList wpListIn Calls
section
variable {ow : Nat → Nat} {w : World} {r N : Nat} {l : List Cr} {O : List Ol} {x : Nm}
theorem CrOk.of (H : Ref ow w r N l O) {m : Nat} {d : Cr} (hd : l[m]? = some d) : CrOk (fun b => ow b = 1) w N d := by
  obtain ⟨A, n, c, A', n', c', hb, HF, -, -⟩ := H.blk
  exact HF.ok d (List.mem_of_getElem? hd)
theorem CrOk.show_ {S : Nat → Prop} {d : Cr} (h : CrOk S w N d) (b : Bool) {y : Bs} (hy : Rd S w y) : CrOk S w N ⟨d.k, b, y, d.a⟩ := ⟨hy, h.a, h.al, h.ys, h.few⟩
theorem set_show {w1 : World} (H : Ref ow w r N l O) (hb : Below w.heap.size w w1) {m : Nat} {d : Cr} (hd : l[m]? = some d) (b : Bool) {y : Bs} (hy : Rd (fun b => ow b = 1 ∨ w.heap.size ≤ b) w1 y) (hN : N ≤ 500000) :
    Calls Try.prog 35 #[.pointer (some ⟨r, 0, none⟩), .int .i64 (m : Int), .agg #[encStr d.k, .bool b, .slice y.A y.n y.c, .slice d.a.A d.a.n d.a.c]] w1 fun res w' => res = .returned (.tuple #[]) ∧ ∃ ow', Ref ow' w' r N (l.set m ⟨d.k, b, y, d.a⟩) O ∧ Chg ow ow' w w' := by
  obtain ⟨ow1, H1, C1, hf⟩ := H.fresh hb
  have hy1 : Rd (fun b => ow1 b = 1) w1 y := hy.less fun b hb hlt => by
    rcases hb with h | h
    · rw [C1.same b (H.low b (by omega))]; exact h
    · exact hf b h hlt
  refine (set_any H1 (List.getElem?_eq_some_iff.1 hd).1 ((CrOk.of H1 hd).show_ b hy1) hN).mono ?_
  rintro res w' ⟨rfl, ow', H2, C2⟩
  exact ⟨rfl, ow', H2, C1.trans C2⟩
set_option maxRecDepth 100000 in
set_option maxHeartbeats 8000000 in
theorem rdelete_any (H : Ref ow w r N l O) (hs : SrtC (absC l)) (hN : N ≤ 500000) : Calls Try.prog 14 #[.pointer (some ⟨r, 0, none⟩), encStr x] w fun e w' =>
    (e = .returned (.bool false) ∧ (shwC (absC l) x).1 = false ∧ ∃ ow', Ref ow' w' r N l O ∧ Chg ow ow' w w') ∨
    (e = .returned (.bool true) ∧ ∃ (m : Nat) (d : Cr), l[m]? = some d ∧ d.k = x ∧ d.sh = true ∧ ∃ ow', Ref ow' w' r N (l.set m ⟨d.k, false, Bs.nil, d.a⟩) O ∧ Chg ow ow' w w') := by
  have hN' : N ≤ 1000000 := by omega
  go_enter Try.func14, Try.ntmps14
  go_wp2_with fail
  refine (shown_any (x := x) H hs hN').mono ?_
  rintro e1 w1 ⟨z, rfl, hz, b1⟩
  rcases hz with ⟨rfl, hf⟩ | ⟨m, d, rfl, hd, hk, hsd⟩
  · have HF := Lib.hid hf
    clear hf
    go_wp2_with fail
    go_ret
    exact .inl ⟨rfl, HF.out, ow, H.below b1, Chg.below b1 ow⟩
  · have HST := Lib.hid (fun (V : World) (hV : Below w.heap.size w V) => set_show (w1 := V) H hV hd false (y := Bs.nil) (Rd.nil _ _) hN)
    have hneg : ¬ ((m : Int) < 0) := by omega
    have H1 := H.below b1
    obtain ⟨A, n, c, A', n', c', hb, HF, -, -⟩ := H1.blk
    have hc0 := hb.cell (i := 0) rfl
    obtain ⟨g, rfl, -, hmn, hgl, hrg, k0, k1, k2, k3⟩ := own_at HF.own hd
    have HD := Lib.hid (And.intro hd (And.intro hk hsd))
    have HBK := Lib.hid b1
    rw [hsd] at k1
    have hrg : w1.rangeAt g (0 + m * 4) [encStr d.k, .bool true, .slice d.x.A d.x.n d.x.c, .slice d.a.A d.a.n d.a.c] := by unfold Cr.cells at hrg; rw [hsd] at hrg; exact hrg
    clear hb HF hd hk hsd b1
    go_wp2_with (first
      | (refine Held.wpList_run (w := w1) rfl (v := .pointer (some ⟨g, 0 + m * 4, none⟩)) (Held.y_addr (S := fun _ => True) rfl rfl rfl (Rs.run_addr_of (P := Try.prog) 26 77 g 0 n c m 4 .i64 Try.underlying26 (by kernel_rfl) hmn) _ trivial) ?_)
      | (refine Held.wpList_run (w := w1) rfl (v := .agg #[encStr d.k, .bool true, .slice d.x.A d.x.n d.x.c, .slice d.a.A d.a.n d.a.c]) (Rs.y_load_range (S := fun W => W = w1) (cs := [encStr d.k, .bool true, .slice d.x.A d.x.n d.x.c, .slice d.a.A d.a.n d.a.c]) rfl rfl Try.underlying77 rfl (by kernel_rfl) rfl (fun W hW => hW ▸ hrg) _ rfl) ?_)
      | (refine wpList_alloc_blk (w := w1) rfl 77 rfl #[encStr [], .bool false, .slice none 0 0, .slice none 0 0] (by kernel_rfl) ?_; intro u2 qu2 gu2 zu2; have bou2 : Below w1.heap.size w1 u2 := (Below.refl _ _).grown gu2 (Nat.le_refl _) (by simp))
      | (refine wpList_store_blk (w := u2) rfl 77 _ _ rfl w1.heap.size 4 rfl 77 _ #[encStr d.k, .bool true, .slice d.x.A d.x.n d.x.c, .slice d.a.A d.a.n d.a.c] rfl qu2 (by kernel_rfl) rfl rfl (by kernel_rfl) ?_; intro u3 qu3 gu3 zu3; have bou3 : Below w1.heap.size w1 u3 := bou2.grown gu3 bou2.size (fun b e => by injection e with e; rw [← e]; exact Nat.le_refl _))
      | (refine wpList_store_field (w := u3) rfl 4 _ _ rfl w1.heap.size 1 rfl 77 _ (.bool false) rfl qu3 (by simp) (by kernel_rfl) rfl rfl ?_; intro u4 qu4 gu4 zu4; have bou4 : Below w1.heap.size w1 u4 := bou3.grown gu4 bou3.size (fun b e => by injection e with e; rw [← e]; exact Nat.le_refl _))
      | (refine wpList_store_field (w := u4) rfl 31 _ _ rfl w1.heap.size 2 rfl 77 _ (.slice none 0 0) rfl qu4 (by simp) (by kernel_rfl) rfl rfl ?_; intro u5 qu5 gu5 zu5; have bou5 : Below w1.heap.size w1 u5 := bou4.grown gu5 bou4.size (fun b e => by injection e with e; rw [← e]; exact Nat.le_refl _))
      | (refine wpList_load_blk (w := u5) rfl 77 _ rfl w1.heap.size 4 rfl 77 #[encStr d.k, .bool false, .slice none 0 0, .slice d.a.A d.a.n d.a.c] qu5 _ Try.underlying77 rfl (by kernel_rfl) rfl ?_))
    refine (HST.out u5 (HBK.out.trans (bou5.mono HBK.out.size))).mono ?_
    rintro e2 w2 ⟨rfl, ow', H2, C2⟩
    have HH := Lib.hid (And.intro H2 C2)
    clear H2 C2
    go_wp2_with fail
    go_ret
    exact .inr ⟨rfl, m, d, HD.out.1, HD.out.2.1, HD.out.2.2, ow', HH.out⟩
set_option maxRecDepth 100000 in
set_option maxHeartbeats 8000000 in
theorem rreplay_any (H : Ref ow w r N l O) (hs : SrtC (absC l)) (hN : N ≤ 500000) (q : Int) : Calls Try.prog 10 #[.pointer (some ⟨r, 0, none⟩), encStr x, .int .i64 q] w fun e w' =>
    (e = .returned (.bool false) ∧ (q < 0 ∨ ((verC (absC l) x).length : Int) ≤ q) ∧ ∃ ow', Ref ow' w' r N l O ∧ Chg ow ow' w w') ∨
    (e = .returned (.bool true) ∧ ∃ (m j : Nat) (d : Cr) (y : Bs), l[m]? = some d ∧ d.k = x ∧ q = (j : Int) ∧ d.a.ys[j]? = some y ∧ ∃ ow', Ref ow' w' r N (l.set m ⟨d.k, true, y, d.a⟩) O ∧ Chg ow ow' w w') := by
  have hN' : N ≤ 1000000 := by omega
  go_enter Try.func10, Try.ntmps10
  go_wp2_with fail
  refine (at_any (x := x) H hN').mono ?_
  rintro e1 w1 ⟨m, b, rfl, hml, hat, hb, b1⟩
  rcases hb with ⟨rfl, d, hd, hk⟩ | ⟨rfl, hno⟩
  · have hlen : (verC (absC l) x).length = d.a.n := by
      rw [← hk, ver_of (at_some (x := d.k) hs (absC_at hd) rfl)]
      obtain ⟨A9, c9, e9, _⟩ := OwnL.form (CrOk.of H hd).a
      injection e9 with _ e9 _
      rw [e9]
      simp [Cr.p]
    have HV := Lib.hid hlen
    have HSET := Lib.hid (fun (V : World) (hV : Below w.heap.size w V) (y : Bs) (hy : Rd (fun b => ow b = 1 ∨ w.heap.size ≤ b) V y) => set_show (w1 := V) H hV hd true (y := y) hy hN)
    have H1 := H.below b1
    obtain ⟨A, n, c, A', n', c', hb, HF, -, -⟩ := H1.blk
    have hc0 := hb.cell (i := 0) rfl
    obtain ⟨g, rfl, -, hmn, hgl, hrg, k0, k1, k2, k3⟩ := own_at HF.own hd
    have hok := CrOk.of H1 hd
    have HD := Lib.hid (And.intro hd hk)
    have HBK := Lib.hid b1
    clear hb HF hd hk b1 hlen hat k0 k1 k2
    by_cases hq0 : q < 0
    · go_wp2_with fail
      go_ret
      exact .inl ⟨rfl, .inl hq0, ow, H1, Chg.below HBK.out ow⟩
    · obtain ⟨j, rfl⟩ : ∃ j : Nat, q = (j : Int) := ⟨q.toNat, by omega⟩
      by_cases hj : j < d.a.n
      · have HG := Lib.hid (show decide ((d.a.n : Int) ≤ (j : Int)) = false by simp; omega)
        have hal := hok.a
        have hyl : j < d.a.ys.length := by
          obtain ⟨A9, c9, e9, _⟩ := OwnL.form hal
          injection e9 with _ e9 _
          omega
        obtain ⟨y, hy⟩ : ∃ y, d.a.ys[j]? = some y := ⟨_, List.getElem?_eq_getElem hyl⟩
        obtain ⟨gb, hgA, hgn⟩ := own_some hal (by omega)
        have hyok := (hok.ys y (List.mem_of_getElem? hy))
        rw [hgA] at k3 hal
        unfold Cr.cells at hrg
        rw [hgA] at hrg
        have hyr := own_range hal hyl
        have hgbl := (OwnL.lt hal gb rfl).2
        have hdy : d.a.ys.getD j kB.d = y := by rw [List.getD_eq_getElem?_getD, hy]; rfl
        rw [hdy] at hyr
        have hcell : w1.cell? ⟨gb, 0 + j * 1, none⟩ = some (.slice y.A y.n y.c) := hyr 0 _ rfl
        have HY := Lib.hid (And.intro hy (And.intro hyok hgA))
        clear hal hyr hdy hy hyok hgn hyl hgA hok
        go_wp2_with (first
          | (refine Held.wpList_run (w := w1) rfl (v := .pointer (some ⟨g, 0 + m * 4, none⟩)) (Held.y_addr (S := fun _ => True) rfl rfl rfl (Rs.run_addr_of (P := Try.prog) 26 77 g 0 n c m 4 .i64 Try.underlying26 (by kernel_rfl) hmn) _ trivial) ?_)
          | (refine Held.wpList_run (w := w1) rfl (v := .pointer (some ⟨g, 0 + m * 4 + 3, none⟩)) (Held.y_field (S := fun _ => True) (k := 3) (s := 0) rfl rfl Try.underlying77 rfl (by kernel_rfl) rfl _ trivial) ?_)
          | (refine Held.wpList_run (w := w1) rfl (v := .slice (some ⟨gb, 0, none⟩) d.a.n d.a.c) (Held.y_load (S := fun W => W = w1) (p := ⟨g, 0 + m * 4 + 3, none⟩) rfl rfl (by kernel_rfl) (fun W hW => hW ▸ k3) _ rfl) ?_)
          | (refine Held.wpList_run (w := w1) rfl (v := .bool false) (y_geqI (S := fun _ => True) (j : Int) (d.a.n : Int) rfl rfl rfl HG.out _ trivial) ?_)
          | (refine Held.wpList_run (w := w1) rfl (v := .agg #[encStr d.k, .bool d.sh, .slice d.x.A d.x.n d.x.c, .slice (some ⟨gb, 0, none⟩) d.a.n d.a.c]) (Rs.y_load_range (S := fun W => W = w1) (cs := [encStr d.k, .bool d.sh, .slice d.x.A d.x.n d.x.c, .slice (some ⟨gb, 0, none⟩) d.a.n d.a.c]) rfl rfl Try.underlying77 rfl (by kernel_rfl) rfl (fun W hW => hW ▸ hrg) _ rfl) ?_)
          | (refine wpList_alloc_blk (w := w1) rfl 77 rfl #[encStr [], .bool false, .slice none 0 0, .slice none 0 0] (by kernel_rfl) ?_; intro u2 qu2 gu2 zu2; have bou2 : Below w1.heap.size w1 u2 := (Below.refl _ _).grown gu2 (Nat.le_refl _) (by simp))
          | (refine wpList_store_blk (w := u2) rfl 77 _ _ rfl w1.heap.size 4 rfl 77 _ #[encStr d.k, .bool d.sh, .slice d.x.A d.x.n d.x.c, .slice (some ⟨gb, 0, none⟩) d.a.n d.a.c] rfl qu2 (by kernel_rfl) rfl rfl (by kernel_rfl) ?_; intro u3 qu3 gu3 zu3; have bou3 : Below w1.heap.size w1 u3 := bou2.grown gu3 bou2.size (fun b e => by injection e with e; rw [← e]; exact Nat.le_refl _)))
        have hl3 := qu3.lt
        have hsz : w1.heap.size < u3.heap.size := hl3
        refine wp_region_bar (T := fun W => Below w1.heap.size w1 W ∧ W.cell? ⟨w1.heap.size, 3, none⟩ = some (.slice (some ⟨gb, 0, none⟩) d.a.n d.a.c)) (s := 8) (by kernel_rfl) ?_
        change wpAnyB _ _ _ _ _ _ _ _ _ u3.drew
        have T0 : Below w1.heap.size w1 u3.drew ∧ u3.drew.cell? ⟨w1.heap.size, 3, none⟩ = some (.slice (some ⟨gb, 0, none⟩) d.a.n d.a.c) := ⟨bou3.drew, qu3.drew.cell (i := 3) rfl⟩
        refine Held.takeB (v := .pointer (some ⟨w1.heap.size, 3, none⟩)) 0 (some 42) [8] rfl rfl (by kernel_rfl) (by kernel_rfl) (by kernel_rfl) (by kernel_rfl) (fun _ _ _ h => h) rfl (Held.y_field (k := 3) (s := 0) rfl rfl Try.underlying77 rfl (by kernel_rfl) rfl) T0 ?_
        simp only [Act.put, Z1, Z2, Z3]
        refine Held.takeB (v := .slice (some ⟨gb, 0, none⟩) d.a.n d.a.c) 1 (some 43) [8] rfl rfl (by kernel_rfl) (by kernel_rfl) (by kernel_rfl) (by kernel_rfl) (fun _ _ _ h => h) rfl (Held.y_load rfl rfl (by kernel_rfl) (fun W hW => hW.2)) T0 ?_
        simp only [Act.put, Z1, Z2, Z3]
        refine Held.takeB (v := .int .i64 (j : Int)) 2 (some 44) [8] rfl rfl (by kernel_rfl) (by kernel_rfl) (by kernel_rfl) (by kernel_rfl) (fun _ _ _ h => h) rfl (Held.y_move rfl rfl) T0 ?_
        simp only [Act.put, Z1, Z2, Z3]
        refine Held.takeB (v := .pointer (some ⟨gb, 0 + j * 1, none⟩)) 3 (some 45) [8] rfl rfl (by kernel_rfl) (by kernel_rfl) (by kernel_rfl) (by kernel_rfl) (fun _ _ _ h => h) rfl (Held.y_addr rfl rfl rfl (fun W => Rs.run_addr_of (P := Try.prog) 68 31 gb 0 d.a.n d.a.c j 1 .i64 Try.underlying68 (by kernel_rfl) hj W)) T0 ?_
        simp only [Act.put, Z1, Z2, Z3]
        refine Held.takeB (v := .slice y.A y.n y.c) 4 (some 46) [8] rfl rfl (by kernel_rfl) (by kernel_rfl) (by kernel_rfl) (by kernel_rfl) (fun _ _ _ h => h) rfl (Held.y_load rfl rfl (by kernel_rfl) (fun W hW => (hW.1.cell (p := ⟨gb, 0 + j * 1, none⟩) hgbl).trans hcell)) T0 ?_
        simp only [Act.put, Z1, Z2, Z3]
        refine Held.takeB (v := .pointer (some ⟨w1.heap.size, 1, none⟩)) 5 (some 47) [8] rfl rfl (by kernel_rfl) (by kernel_rfl) (by kernel_rfl) (by kernel_rfl) (fun _ _ _ h => h) rfl (Held.y_field (k := 1) (s := 0) rfl rfl Try.underlying77 rfl (by kernel_rfl) rfl) T0 ?_
        simp only [Act.put, Z1, Z2, Z3]
        refine Held.oneB 6 (by kernel_rfl) ?_
        refine op_store_cell 6 none 4 w1.heap.size 1 77 _ (.bool true) rfl rfl rfl rfl rfl rfl (qu3.drew) (by simp) (by kernel_rfl) rfl rfl ?_
        intro u4 qu4 gu4
        have T0 : Below w1.heap.size w1 u4 ∧ u4.cell? ⟨w1.heap.size, 3, none⟩ = some (.slice (some ⟨gb, 0, none⟩) d.a.n d.a.c) := ⟨T0.1.grown gu4 T0.1.size (fun b e => by injection e with e; rw [← e]; exact Nat.le_refl _), qu4.cell (i := 3) rfl⟩
        refine ⟨fun _ => T0, ?_⟩
        simp only [Act.put]
        refine Held.takeB (v := .pointer (some ⟨w1.heap.size, 2, none⟩)) 7 (some 48) [8] rfl rfl (by kernel_rfl) (by kernel_rfl) (by kernel_rfl) (by kernel_rfl) (fun _ _ _ h => h) rfl (Held.y_field (k := 2) (s := 0) rfl rfl Try.underlying77 rfl (by kernel_rfl) rfl) T0 ?_
        simp only [Act.put, Z1, Z2, Z3]
        refine Held.oneB 8 (by kernel_rfl) ?_
        refine op_store_cell 8 none 31 w1.heap.size 2 77 _ (.slice y.A y.n y.c) rfl rfl rfl rfl rfl rfl qu4 (by simp) (by kernel_rfl) rfl rfl ?_
        intro u5 qu5 gu5
        refine ⟨fun h => (by cases h.symm.trans (show _ = true by kernel_rfl)), ?_⟩
        simp only [Act.put]
        refine Held.doneB (by kernel_rfl) ?_ _
        have bou5 : Below w1.heap.size w1 u5 := T0.1.grown gu5 T0.1.size (fun b e => by injection e with e; rw [← e]; exact Nat.le_refl _)
        have qu5 : Blk u5 w1.heap.size 77 #[encStr d.k, .bool true, .slice y.A y.n y.c, .slice (some ⟨gb, 0, none⟩) d.a.n d.a.c] := qu5
        have hb5 : Below w.heap.size w u5 := HBK.out.trans (bou5.mono HBK.out.size)
        have hyr : Rd (fun b => ow b = 1 ∨ w.heap.size ≤ b) u5 y := (HY.out.2.1.keep (KeepsP.of_below bou5)).less fun b hb _ => .inl hb
        have HS5 := HSET.out u5 hb5 y hyr
        rw [HY.out.2.2] at HS5
        go_wp2_with (first
          | (refine wpList_load_blk (w := u5) rfl 77 _ rfl w1.heap.size 4 rfl 77 #[encStr d.k, .bool true, .slice y.A y.n y.c, .slice (some ⟨gb, 0, none⟩) d.a.n d.a.c] qu5 _ Try.underlying77 rfl (by kernel_rfl) rfl ?_))
        refine HS5.mono ?_
        rintro e2 w2 ⟨rfl, ow', H2, C2⟩
        have HH := Lib.hid (And.intro H2 C2)
        clear H2 C2 HS5
        go_wp2_with fail
        go_ret
        exact .inr ⟨rfl, m, j, d, y, HD.out.1, HD.out.2, rfl, HY.out.1, ow', HH.out⟩
      · have HG := Lib.hid (show decide ((d.a.n : Int) ≤ (j : Int)) = true by simp; omega)
        go_wp2_with (first
          | (refine Held.wpList_run (w := w1) rfl (v := .pointer (some ⟨g, 0 + m * 4, none⟩)) (Held.y_addr (S := fun _ => True) rfl rfl rfl (Rs.run_addr_of (P := Try.prog) 26 77 g 0 n c m 4 .i64 Try.underlying26 (by kernel_rfl) hmn) _ trivial) ?_)
          | (refine Held.wpList_run (w := w1) rfl (v := .pointer (some ⟨g, 0 + m * 4 + 3, none⟩)) (Held.y_field (S := fun _ => True) (k := 3) (s := 0) rfl rfl Try.underlying77 rfl (by kernel_rfl) rfl _ trivial) ?_)
          | (refine Held.wpList_run (w := w1) rfl (v := .slice d.a.A d.a.n d.a.c) (Held.y_load (S := fun W => W = w1) (p := ⟨g, 0 + m * 4 + 3, none⟩) rfl rfl (by kernel_rfl) (fun W hW => hW ▸ k3) _ rfl) ?_)
          | (refine Held.wpList_run (w := w1) rfl (v := .bool true) (y_geqI (S := fun _ => True) (j : Int) (d.a.n : Int) rfl rfl rfl HG.out _ trivial) ?_))
        go_ret
        exact .inl ⟨rfl, .inr (by rw [HV.out]; omega), ow, H1, Chg.below HBK.out ow⟩
  · have hlen : (verC (absC l) x).length = 0 := by
      unfold verC
      rw [at_none hs hat (fun c hc => by obtain ⟨e, h1, rfl⟩ := absC_at' hc; exact hno e h1)]
      rfl
    have HV := Lib.hid hlen
    clear hlen hno hat
    go_wp2_with fail
    go_ret
    exact .inl ⟨rfl, by rw [HV.out]; by_cases h : q < 0; exact .inl h; exact .inr (by show (0 : Int) ≤ q; omega), ow, H.below b1, Chg.below b1 ow⟩
end
end Go.Proofs.Ytbippmbcgkicaaa.Sto
namespace Go.Proofs.Ytbippmbcgkicaaa.Sto
open Go.RowKit Go.Shelf Go.Proofs.Ytbippmbcgkicaaa Mem Held Sl Go.Proofs.Ytbippmbcgkicaaa.Range
attribute [local irreducible] wpList wpListIn Calls
section
variable {ow : Nat → Nat} {w : World} {r N : Nat} {l : List Cr} {O : List Ol} {x : Nm}
set_option maxRecDepth 100000 in
set_option maxHeartbeats 16000000 in
theorem rflip_any (H : Ref ow w r N l O) (hs : SrtC (absC l)) (hN : N ≤ 500000) (q : Int) (hw : (Lit.int .i64 q).wf = true) : Calls Try.prog 18 #[.pointer (some ⟨r, 0, none⟩), encStr x, .int .i64 q] w fun e w' =>
    (e = .returned (.bool false) ∧ ((shwC (absC l) x).1 = false ∨ q < 0 ∨ ((shwC (absC l) x).2.length : Int) ≤ q / 8) ∧ ∃ ow', Ref ow' w' r N l O ∧ Chg ow ow' w w') ∨
    (e = .returned (.bool true) ∧ ∃ (m j : Nat) (d : Cr) (y : Bs), l[m]? = some d ∧ d.k = x ∧ d.sh = true ∧ q = (j : Int) ∧ j / 8 < d.x.zs.length ∧ y.zs = flipZ d.x.zs j ∧ ∃ ow', Ref ow' w' r N (l.set m ⟨d.k, true, y, d.a⟩) O ∧ Chg ow ow' w w') := by
  have hN' : N ≤ 1000000 := by omega
  have hqw := wf_i64 hw
  clear hw
  go_enter Try.func18, Try.ntmps18
  go_wp2_with fail
  refine (shown_any (x := x) H hs hN').mono ?_
  rintro e1 w1 ⟨z, rfl, hz, b1⟩
  rcases hz with ⟨rfl, hf⟩ | ⟨m, d, rfl, hd, hk, hsd⟩
  · have HF := Lib.hid hf
    clear hf hqw
    go_wp2_with fail
    go_ret
    exact .inl ⟨rfl, .inl HF.out, ow, H.below b1, Chg.below b1 ow⟩
  · have HST := Lib.hid (fun (V : World) (hV : Below w.heap.size w V) (y : Bs) (hy : Rd (fun b => ow b = 1 ∨ w.heap.size ≤ b) V y) => set_show (w1 := V) H hV hd true (y := y) hy hN)
    have hsh : (shwC (absC l) x) = (true, d.x.zs) := by rw [← hk, shw_of (at_some (x := d.k) hs (absC_at hd) rfl), ← hsd]; rfl
    have HSH := Lib.hid hsh
    have hneg : ¬ ((m : Int) < 0) := by omega
    have HX := Lib.hid (CrOk.of (H.below b1) hd).x
    have hzl : d.x.zs.length = d.x.n := HX.out.len
    clear hsh
    have H1 := H.below b1
    obtain ⟨A, n, c, A', n', c', hb, HF, -, -⟩ := H1.blk
    have hc0 := hb.cell (i := 0) rfl
    obtain ⟨g, rfl, -, hmn, hgl, hrg, k0, k1, k2, k3⟩ := own_at HF.own hd
    have HD := Lib.hid (And.intro hd (And.intro hk hsd))
    have HBK := Lib.hid b1
    rw [hsd] at k1
    have hrg : w1.rangeAt g (0 + m * 4) [encStr d.k, .bool true, .slice d.x.A d.x.n d.x.c, .slice d.a.A d.a.n d.a.c] := by unfold Cr.cells at hrg; rw [hsd] at hrg; exact hrg
    clear hb HF hd hk hsd b1
    by_cases hq0 : q < 0
    · clear hqw hzl
      go_wp2_with fail
      go_ret
      exact .inl ⟨rfl, .inr (.inl hq0), ow, H1, Chg.below HBK.out ow⟩
    · obtain ⟨j, rfl⟩ : ∃ j : Nat, q = (j : Int) := ⟨q.toNat, by omega⟩
      have HQ := Lib.hid (show IntKind.i64.wrap ((j : Int).tdiv 8) = ((j / 8 : Nat) : Int) by rw [Int.tdiv_eq_ediv_of_nonneg (by omega)]; simp [IntKind.wrap_i64]; omega)
      have HRM := Lib.hid (show (j : Int).tmod 8 = ((j % 8 : Nat) : Int) by rw [Int.tmod_eq_emod_of_nonneg (by omega)]; omega)
      have HCV := Lib.hid (show IntKind.u64.wrap ((j % 8 : Nat) : Int) = ((j % 8 : Nat) : Int) by rw [IntKind.wrap_u64]; omega)
      clear hqw
      by_cases hj : j / 8 < d.x.n
      · have HG := Lib.hid (show decide ((d.x.n : Int) ≤ ((j / 8 : Nat) : Int)) = false by simp; omega)
        have HZL := Lib.hid hzl
        have HJ := Lib.hid hj
        clear hzl hj
        go_wp2_with (first
          | (refine Held.wpList_run (w := w1) rfl (v := .int .i64 ((j / 8 : Nat) : Int)) (y_quoI (S := fun _ => True) (j : Int) 8 rfl rfl rfl (by decide) HQ.out _ trivial) ?_)
          | (refine Held.wpList_run (w := w1) rfl (v := .bool false) (y_geqI (S := fun _ => True) ((j / 8 : Nat) : Int) (d.x.n : Int) rfl rfl rfl HG.out _ trivial) ?_)
          | (refine Held.wpList_run (w := w1) rfl (v := .pointer (some ⟨g, 0 + m * 4 + 2, none⟩)) (Held.y_field (S := fun _ => True) (k := 2) (s := 0) rfl rfl Try.underlying77 rfl (by kernel_rfl) rfl _ trivial) ?_)
          | (refine Held.wpList_run (w := w1) rfl (v := .slice d.x.A d.x.n d.x.c) (Held.y_load (S := fun W => W = w1) (p := ⟨g, 0 + m * 4 + 2, none⟩) rfl rfl (by kernel_rfl) (fun W hW => hW ▸ k2) _ rfl) ?_)
          | (refine Held.wpList_run (w := w1) rfl (v := .pointer (some ⟨g, 0 + m * 4, none⟩)) (Held.y_addr (S := fun _ => True) rfl rfl rfl (Rs.run_addr_of (P := Try.prog) 26 77 g 0 n c m 4 .i64 Try.underlying26 (by kernel_rfl) hmn) _ trivial) ?_)
          | (refine Held.wpList_run (w := w1) rfl (v := .agg #[encStr d.k, .bool true, .slice d.x.A d.x.n d.x.c, .slice d.a.A d.a.n d.a.c]) (Rs.y_load_range (S := fun W => W = w1) (cs := [encStr d.k, .bool true, .slice d.x.A d.x.n d.x.c, .slice d.a.A d.a.n d.a.c]) rfl rfl Try.underlying77 rfl (by kernel_rfl) rfl (fun W hW => hW ▸ hrg) _ rfl) ?_)
          | (refine wpList_alloc_blk (w := w1) rfl 77 rfl #[encStr [], .bool false, .slice none 0 0, .slice none 0 0] (by kernel_rfl) ?_; intro u2 qu2 gu2 zu2; have bou2 : Below w1.heap.size w1 u2 := (Below.refl _ _).grown gu2 (Nat.le_refl _) (by simp))
          | (refine wpList_store_blk (w := u2) rfl 77 _ _ rfl w1.heap.size 4 rfl 77 _ #[encStr d.k, .bool true, .slice d.x.A d.x.n d.x.c, .slice d.a.A d.a.n d.a.c] rfl qu2 (by kernel_rfl) rfl rfl (by kernel_rfl) ?_; intro u3 qu3 gu3 zu3; have bou3 : Below w1.heap.size w1 u3 := bou2.grown gu3 bou2.size (fun b e => by injection e with e; rw [← e]; exact Nat.le_refl _))
          | (refine Held.wpList_run (w := u3) rfl (v := .slice d.x.A d.x.n d.x.c) (Held.y_load (S := fun W => W = u3) (p := ⟨w1.heap.size, 2, none⟩) rfl rfl (by kernel_rfl) (fun W hW => hW ▸ qu3.cell (i := 2) rfl) _ rfl) ?_))
        refine (cpy_any (HX.out.keep (KeepsP.of_below bou3))).mono ?_
        rintro e2 u4 ⟨⟨Ay, ny, cy, zs⟩, rfl, hyz, hyo, hyr, b4⟩
        have hyz : zs = d.x.zs := hyz
        subst hyz
        have hln : d.x.zs.length = ny := hyr.len
        have hqn : j / 8 < ny := by have := HZL.out; have := HJ.out; omega
        have hyo : Mem.Own u4 u3.heap.size 5 .u8 (.slice Ay ny cy) d.x.zs := hyo
        obtain ⟨gy, c9, e0, hgb, hgyl, _, _, hcl, _⟩ := hyo.at_ (by omega)
        injection e0 with e1 e2 e3
        subst e1
        have hcell := Lib.hid (show u4.cell? ⟨gy, 0 + j / 8, none⟩ = some (.int .u8 (d.x.zs.getD (j / 8) 0)) by rw [Nat.zero_add]; exact hcl _ (by omega))
        have HZ := Lib.hid (show d.x.zs.set (j / 8) (turnZ (d.x.zs.getD (j / 8) 0) (j % 8)) = flipZ d.x.zs j from rfl)
        generalize d.x.zs.getD (j / 8) 0 = z at hcell HZ
        have bo4 : Below w1.heap.size w1 u4 := bou3.trans (b4.mono bou3.size)
        have hu3l := qu3.lt
        have hyo := hyo.less (Nat.le_of_lt hu3l)
        have qu4 : Blk u4 w1.heap.size 77 #[encStr d.k, .bool true, .slice d.x.A d.x.n d.x.c, .slice d.a.A d.a.n d.a.c] := qu3.below b4 hu3l
        have HLY := Lib.hid hln
        have HGY := Lib.hid (show w1.heap.size < gy from Nat.lt_of_lt_of_le hu3l hgb)
        have HNX := Lib.hid (show d.x.n ≤ 1099511627776 from HX.out.2.1)
        clear hcl e2 e3 hln hyr hgb
        go_wp2_with (first
          | (refine wpList_store_field (w := u4) rfl 31 _ _ rfl w1.heap.size 2 rfl 77 _ (.slice (some ⟨gy, 0, none⟩) ny cy) rfl qu4 (by simp) (by kernel_rfl) rfl rfl ?_; intro u5 qu5 gu5 zu5; have bou5 : Below w1.heap.size w1 u5 := bo4.grown gu5 bo4.size (fun b e => by injection e with e; rw [← e]; exact Nat.le_refl _)))
        have qu5 : Blk u5 w1.heap.size 77 #[encStr d.k, .bool true, .slice (some ⟨gy, 0, none⟩) ny cy, .slice d.a.A d.a.n d.a.c] := qu5
        have hl5 := qu5.lt
        have hne : gy ≠ w1.heap.size := by have := HGY.out; omega
        have hyo5 : Mem.Own u5 w1.heap.size 5 .u8 (.slice (some ⟨gy, 0, none⟩) ny cy) d.x.zs := Mem.Own.kept hyo gu5 (.inr fun e => by injection e with e; exact hne e)
        have hgy5 : gy < u5.heap.size := Nat.lt_of_lt_of_le hgyl gu5.size
        have hcell5 := Lib.hid (show u5.cell? ⟨gy, 0 + j / 8, none⟩ = some (.int .u8 z) from (World.cell?_of_block (gu5.block gy hgyl (fun e => hne (by injection e)))).trans hcell.out)
        refine wp_region_bar (T := fun W => Below u5.heap.size u5 W) (s := 16) (by kernel_rfl) ?_
        change wpAnyB _ _ _ _ _ _ _ _ _ u5.drew
        have T0 : Below u5.heap.size u5 u5.drew := (Below.refl _ _).drew
        refine Held.takeB (v := .pointer (some ⟨w1.heap.size, 2, none⟩)) 0 (some 43) [16] rfl rfl (by kernel_rfl) (by kernel_rfl) (by kernel_rfl) (by kernel_rfl) (fun _ _ _ h => h) rfl (Held.y_field (k := 2) (s := 0) rfl rfl Try.underlying77 rfl (by kernel_rfl) rfl) T0 ?_
        simp only [Act.put, Z1, Z2, Z3]
        refine Held.takeB (v := .slice (some ⟨gy, 0, none⟩) ny cy) 1 (some 44) [16] rfl rfl (by kernel_rfl) (by kernel_rfl) (by kernel_rfl) (by kernel_rfl) (fun _ _ _ h => h) rfl (Held.y_load rfl rfl (by kernel_rfl) (fun W hW => (qu5.below hW hl5).cell rfl)) T0 ?_
        simp only [Act.put, Z1, Z2, Z3]
        refine Held.takeB (v := .int .i64 (j : Int)) 2 (some 45) [16] rfl rfl (by kernel_rfl) (by kernel_rfl) (by kernel_rfl) (by kernel_rfl) (fun _ _ _ h => h) rfl (Held.y_move rfl rfl) T0 ?_
        simp only [Act.put, Z1, Z2, Z3]
        refine Held.takeB (v := .int .i64 ((j / 8 : Nat) : Int)) 3 (some 46) [16] rfl rfl (by kernel_rfl) (by kernel_rfl) (by kernel_rfl) (by kernel_rfl) (fun _ _ _ h => h) rfl (y_quoI _ _ rfl rfl rfl (by decide) HQ.out) T0 ?_
        simp only [Act.put, Z1, Z2, Z3]
        refine Held.takeB (v := .pointer (some ⟨w1.heap.size, 2, none⟩)) 4 (some 47) [16] rfl rfl (by kernel_rfl) (by kernel_rfl) (by kernel_rfl) (by kernel_rfl) (fun _ _ _ h => h) rfl (Held.y_field (k := 2) (s := 0) rfl rfl Try.underlying77 rfl (by kernel_rfl) rfl) T0 ?_
        simp only [Act.put, Z1, Z2, Z3]
        refine Held.takeB (v := .slice (some ⟨gy, 0, none⟩) ny cy) 5 (some 48) [16] rfl rfl (by kernel_rfl) (by kernel_rfl) (by kernel_rfl) (by kernel_rfl) (fun _ _ _ h => h) rfl (Held.y_load rfl rfl (by kernel_rfl) (fun W hW => (qu5.below hW hl5).cell rfl)) T0 ?_
        simp only [Act.put, Z1, Z2, Z3]
        refine Held.takeB (v := .int .i64 (j : Int)) 6 (some 49) [16] rfl rfl (by kernel_rfl) (by kernel_rfl) (by kernel_rfl) (by kernel_rfl) (fun _ _ _ h => h) rfl (Held.y_move rfl rfl) T0 ?_
        simp only [Act.put, Z1, Z2, Z3]
        refine Held.takeB (v := .int .i64 ((j / 8 : Nat) : Int)) 7 (some 50) [16] rfl rfl (by kernel_rfl) (by kernel_rfl) (by kernel_rfl) (by kernel_rfl) (fun _ _ _ h => h) rfl (y_quoI _ _ rfl rfl rfl (by decide) HQ.out) T0 ?_
        simp only [Act.put, Z1, Z2, Z3]
        refine Held.takeB (v := .pointer (some ⟨gy, 0 + j / 8, none⟩)) 8 (some 51) [16] rfl rfl (by kernel_rfl) (by kernel_rfl) (by kernel_rfl) (by kernel_rfl) (fun _ _ _ h => h) rfl (Held.y_addr rfl rfl rfl (fun W => Held.run_addr_slice (P := Try.prog) 31 5 gy 0 ny cy (j / 8) .i64 Try.underlying31 (by kernel_rfl) hqn W)) T0 ?_
        simp only [Act.put, Z1, Z2, Z3]
        refine Held.takeB (v := .int .u8 z) 9 (some 52) [16] rfl rfl (by kernel_rfl) (by kernel_rfl) (by kernel_rfl) (by kernel_rfl) (fun _ _ _ h => h) rfl (Held.y_load rfl rfl (by kernel_rfl) (fun W hW => (hW.cell (p := ⟨gy, 0 + j / 8, none⟩) hgy5).trans hcell5.out)) T0 ?_
        simp only [Act.put, Z1, Z2, Z3]
        refine Held.takeB (v := .int .i64 (j : Int)) 10 (some 53) [16] rfl rfl (by kernel_rfl) (by kernel_rfl) (by kernel_rfl) (by kernel_rfl) (fun _ _ _ h => h) rfl (Held.y_move rfl rfl) T0 ?_
        simp only [Act.put, Z1, Z2, Z3]
        refine Held.takeB (v := .int .i64 ((j % 8 : Nat) : Int)) 11 (some 54) [16] rfl rfl (by kernel_rfl) (by kernel_rfl) (by kernel_rfl) (by kernel_rfl) (fun _ _ _ h => h) rfl (y_remI _ _ rfl rfl rfl (by decide) HRM.out) T0 ?_
        simp only [Act.put, Z1, Z2, Z3]
        refine Held.takeB (v := .int .u64 ((j % 8 : Nat) : Int)) 12 (some 55) [16] rfl rfl (by kernel_rfl) (by kernel_rfl) (by kernel_rfl) (by kernel_rfl) (fun _ _ _ h => h) rfl (Held.y_convert rfl rfl (by kernel_rfl) Try.underlying54 HCV.out) T0 ?_
        simp only [Act.put, Z1, Z2, Z3]
        refine Held.takeB (v := .int .u8 (IntKind.u8.wrap (1 * 2 ^ (j % 8)))) 13 (some 56) [16] rfl rfl (by kernel_rfl) (by kernel_rfl) (by kernel_rfl) (by kernel_rfl) (fun _ _ _ h => h) rfl (Held.y_bin rfl rfl rfl (fun w => by simp [eqGuard]) (Rc.run_shl_ 5 .u8 .u64 (j % 8) (by show j % 8 ≤ 8; omega))) T0 ?_
        simp only [Act.put, Z1, Z2, Z3]
        refine Held.takeB (v := .int .u8 (turnZ z (j % 8))) 14 (some 57) [16] rfl rfl (by kernel_rfl) (by kernel_rfl) (by kernel_rfl) (by kernel_rfl) (fun _ _ _ h => h) rfl (Held.y_int rfl rfl rfl (Held.run_bitop (by simp) 5 .u8 rfl)) T0 ?_
        simp only [Act.put, Z1, Z2, Z3]
        refine Held.takeB (v := .pointer (some ⟨gy, 0 + j / 8, none⟩)) 15 (some 58) [16] rfl rfl (by kernel_rfl) (by kernel_rfl) (by kernel_rfl) (by kernel_rfl) (fun _ _ _ h => h) rfl (Held.y_addr rfl rfl rfl (fun W => Held.run_addr_slice (P := Try.prog) 31 5 gy 0 ny cy (j / 8) .i64 Try.underlying31 (by kernel_rfl) hqn W)) T0 ?_
        simp only [Act.put, Z1, Z2, Z3]
        refine Held.oneB 16 (by kernel_rfl) ?_
        refine op_store_Own 16 none 5 w1.heap.size gy ny cy (0 + j / 8) (j / 8) (turnZ z (j % 8)) 5 .u8 rfl rfl rfl rfl rfl (by omega) rfl (by kernel_rfl) (hyo5.below T0) (by rw [HLY.out]; exact hqn) (wf_bits _ _ _ _) ?_
        intro u6 o6 gu6
        refine ⟨fun h => (by cases h.symm.trans (show _ = true by kernel_rfl)), ?_⟩
        simp only [Act.put]
        refine Held.doneB (by kernel_rfl) ?_ _
        have bo6 : Below w1.heap.size w1 u6 := (bou5.trans (T0.mono bou5.size)).grown gu6 (Nat.le_trans bou5.size T0.size) (fun b e => by injection e with e; have := HGY.out; omega)
        have qu6 : Blk u6 w1.heap.size 77 #[encStr d.k, .bool true, .slice (some ⟨gy, 0, none⟩) ny cy, .slice d.a.A d.a.n d.a.c] := (qu5.below T0 hl5).grown gu6 (by intro e; injection e with e; exact hne e.symm)
        rw [HZ.out] at o6
        have hlf : (flipZ d.x.zs j).length = ny := by unfold flipZ; rw [List.length_set]; exact HLY.out
        have hif : Ints u6 .u8 u6.heap.size (some ⟨gy, 0, none⟩) ny (flipZ d.x.zs j) := o6.ints hlf
        have hyb : Rd (fun b => ow b = 1 ∨ w.heap.size ≤ b) u6 (⟨some ⟨gy, 0, none⟩, ny, cy, flipZ d.x.zs j⟩ : Bs) := ⟨hif, by have h1 := HLY.out; have h2 := HZL.out; have := HNX.out; show ny ≤ _; omega, fun b' off p e hn => by injection e with e; injection e with e; rw [← e]; have := HBK.out.size; have := HGY.out; exact .inr (by omega)⟩
        have HS6 := HST.out u6 (HBK.out.trans (bo6.mono HBK.out.size)) ⟨some ⟨gy, 0, none⟩, ny, cy, flipZ d.x.zs j⟩ hyb
        clear hif hyb o6 hyo5 hyo
        go_wp2_with (first
          | (refine wpList_load_blk (w := u6) rfl 77 _ rfl w1.heap.size 4 rfl 77 #[encStr d.k, .bool true, .slice (some ⟨gy, 0, none⟩) ny cy, .slice d.a.A d.a.n d.a.c] qu6 _ Try.underlying77 rfl (by kernel_rfl) rfl ?_))
        refine HS6.mono ?_
        rintro e2 w2 ⟨rfl, ow', H2, C2⟩
        have HH := Lib.hid (And.intro H2 C2)
        clear H2 C2 HS6
        go_wp2_with fail
        go_ret
        exact .inr ⟨rfl, m, j, d, ⟨some ⟨gy, 0, none⟩, ny, cy, flipZ d.x.zs j⟩, HD.out.1, HD.out.2.1, HD.out.2.2, rfl, by rw [HZL.out]; exact HJ.out, rfl, ow', HH.out⟩
      · have HG := Lib.hid (show decide ((d.x.n : Int) ≤ ((j / 8 : Nat) : Int)) = true by simp; omega)
        have HZL := Lib.hid hzl
        have HJ := Lib.hid hj
        clear hzl hj
        go_wp2_with (first
          | (refine Held.wpList_run (w := w1) rfl (v := .int .i64 ((j / 8 : Nat) : Int)) (y_quoI (S := fun _ => True) (j : Int) 8 rfl rfl rfl (by decide) HQ.out _ trivial) ?_)
          | (refine Held.wpList_run (w := w1) rfl (v := .bool true) (y_geqI (S := fun _ => True) ((j / 8 : Nat) : Int) (d.x.n : Int) rfl rfl rfl HG.out _ trivial) ?_)
          | (refine Held.wpList_run (w := w1) rfl (v := .pointer (some ⟨g, 0 + m * 4, none⟩)) (Held.y_addr (S := fun _ => True) rfl rfl rfl (Rs.run_addr_of (P := Try.prog) 26 77 g 0 n c m 4 .i64 Try.underlying26 (by kernel_rfl) hmn) _ trivial) ?_)
          | (refine Held.wpList_run (w := w1) rfl (v := .pointer (some ⟨g, 0 + m * 4 + 2, none⟩)) (Held.y_field (S := fun _ => True) (k := 2) (s := 0) rfl rfl Try.underlying77 rfl (by kernel_rfl) rfl _ trivial) ?_)
          | (refine Held.wpList_run (w := w1) rfl (v := .slice d.x.A d.x.n d.x.c) (Held.y_load (S := fun W => W = w1) (p := ⟨g, 0 + m * 4 + 2, none⟩) rfl rfl (by kernel_rfl) (fun W hW => hW ▸ k2) _ rfl) ?_))
        go_ret
        exact .inl ⟨rfl, .inr (.inr (by rw [HSH.out]; show ((d.x.zs.length : Nat) : Int) ≤ _; have := HZL.out; have := HJ.out; omega)), ow, H1, Chg.below HBK.out ow⟩
end
end Go.Proofs.Ytbippmbcgkicaaa.Sto
