/-
  Package store's Get, Delete, Swap, Replay and Flip, by their contracts.
  Package store's Flip, and what is asked of a store first (awake), by their contracts.
  Package store's calls, by what they make of what the store says; what is asked of a store first (awake).
  The library's contracts of slices.Sort at strings and of sort.Search, laid at this program by the library's own tool.
  What a name showed as there had been so many Puts (package store's behind), by its contract.
  All names of a store, in no order: package store's all and the library's maps.All, and the iterators that they tell, by their contracts.
  A nil store's Names, Fork and Roll, the library's slices.Values, and a list out of an iterator that tells nothing, by their contracts.
-/
import Derived.Test.YtbippmbcgkicaaaB5
import Derived.Test.YtbippmbcgkicaaaB4
import Derived.Shelf.Sort.Plain
import Derived.Shelf.Slices.In.SortNone
import Derived.Shelf.SlSorted.Search
import Derived.Ground.SlsoProg
import Derived.Ground.NamesProg
import Derived.Test.YtbippmbcgkicaaaProg
set_option linter.unusedVariables false
namespace Go.Proofs.Ytbippmbcgkicaaa.Sto
open Go.RowKit Go.Shelf Go.Proofs.Ytbippmbcgkicaaa Mem Held Sl Go.Proofs.Ytbippmbcgkicaaa.Range
attribute [local irreducible] wpList wpListIn Calls
structure Shows (S0 : Value) (w : World) (k : Nm) (R : Nat → Prop) (p : Option Nat) (v : Vw) : Prop where
  find : ∀ w', Below w.heap.size w w' → Calls Try.prog 32 #[S0, encStr k] w' fun r w'' => r = .returned (ptrV p) ∧ w' = w''
  now : ∀ w', Below w.heap.size w w' → Calls Try.prog 36 #[ptrV p] w' fun r w'' => r = .returned (.agg #[.int .i64 v.t, .bool v.is, .slice v.x.A v.x.n v.x.c]) ∧ Below w'.heap.size w' w''
  rd : Rd R w v.x
theorem Shows.below {S0 : Value} {w w' : World} {k : Nm} {R : Nat → Prop} {p : Option Nat} {v : Vw} (h : Shows S0 w k R p v) (hb : Below w.heap.size w w') : Shows S0 w' k R p v :=
  ⟨fun w2 h2 => h.find w2 (hb.trans (h2.mono hb.size)), fun w2 h2 => h.now w2 (hb.trans (h2.mono hb.size)), h.rd.keep (KeepsP.of_below hb)⟩
theorem shows_any {ow : Nat → Nat} {w : World} {s N : Nat} {W : Int} {es : List Ent} (H : Sto ow w s W N es) {k : Nm} (hk : k.length ≤ maxLen) (hu : ∀ e ∈ es, e.us ≠ []) (hN : N ≤ 1000000) :
    ∃ p v, Shows (.pointer (some ⟨s, 0, none⟩)) w k (fun r => ow r = 1) p v ∧ shwP (absL es) k = (v.is, v.x.zs) ∧ ((p = none ∧ entP (absL es) k = none) ∨ ∃ (i : Nat) (e : Ent), es[i]? = some e ∧ e.k = k ∧ p = some e.h) := by
  by_cases hm : ∃ e ∈ es, e.k = k
  · obtain ⟨e, he, rfl⟩ := hm
    obtain ⟨i, hi⟩ := List.getElem?_of_mem he
    have hf := H.few e he
    obtain ⟨m, hm⟩ : ∃ m, e.us.length = m + 1 := ⟨e.us.length - 1, by have := List.length_pos_iff.2 (hu e he); omega⟩
    obtain ⟨v, hv⟩ : ∃ v, e.us[m]? = some v := ⟨_, List.getElem?_eq_getElem (by omega)⟩
    refine ⟨some e.h, v, ⟨fun w' hb => find_some (H.below hb) he, fun w' hb => now_some ((H.below hb).hist e he) hm hv (by omega), ((H.bytes e he).us v (List.mem_of_getElem? hv)).1⟩, ?_, .inr ⟨i, e, hi, rfl, rfl⟩⟩
    have hl : lastP (e.us.map Vw.p) = v.p := by
      unfold lastP
      rw [List.length_map, hm, Nat.add_sub_cancel, List.getD_eq_getElem?_getD, List.getElem?_map, hv]
      rfl
    unfold shwP
    rw [H.ent he]
    show ((lastP (e.us.map Vw.p)).is, (lastP (e.us.map Vw.p)).zs) = _
    rw [hl]
    rfl
  · have hne : ∀ e ∈ es, e.k ≠ k := fun e he h => hm ⟨e, he, h⟩
    refine ⟨none, Vw.none, ⟨fun w' hb => find_none (H.below hb) hk hne, fun w' hb => now_nil w', Rd.nil _ _⟩, ?_, .inl ⟨rfl, ent_no hne⟩⟩
    unfold shwP
    rw [ent_no hne]
    rfl
set_option maxRecDepth 100000 in
set_option maxHeartbeats 8000000 in
theorem get_core {S0 : Value} {w : World} {k : Nm} {R : Nat → Prop} {p : Option Nat} {v : Vw} (H : Shows S0 w k R p v) :
    Calls Try.prog 26 #[S0, encStr k] w fun r w' => ∃ y : Bs, r = .returned (.tuple #[.slice y.A y.n y.c, .bool v.is]) ∧ y.zs = v.x.zs ∧ Mem.Own w' w.heap.size 5 .u8 (.slice y.A y.n y.c) v.x.zs ∧ Rd (fun b => w.heap.size ≤ b) w' y ∧ Below w.heap.size w w' := by
  have HRD := Lib.hid (fun (w' : World) (h : Below w.heap.size w w') => H.rd.keep (KeepsP.of_below (S := R) h))
  go_enter Try.func26, Try.ntmps26
  go_wp2_with fail
  refine (H.find w (Below.refl _ _)).mono ?_
  rintro r1 w1 ⟨rfl, rfl⟩
  go_wp2_with fail
  refine (H.now w (Below.refl _ _)).mono ?_
  rintro r2 u2 ⟨rfl, b2⟩
  go_wp2_with (first
    | (refine wpList_alloc_blk (w := u2) rfl 73 rfl #[.int .i64 0, .bool false, .slice none 0 0] (by kernel_rfl) ?_; intro u3 qu3 gu3 zu3; have bo3 : Below w.heap.size w u3 := b2.grown gu3 b2.size (by simp))
    | (refine wpList_store_blk (w := u3) rfl 73 _ _ rfl u2.heap.size 3 rfl 73 _ #[.int .i64 v.t, .bool v.is, .slice v.x.A v.x.n v.x.c] rfl qu3 (by kernel_rfl) rfl rfl (by kernel_rfl) ?_; intro u4 q4 g4 z4; have bo : Below w.heap.size w u4 := bo3.grown g4 bo3.size (fun r e => by cases e; exact b2.size); have hlt4 := q4.lt))
  refine wp_region_held (S := fun W => Below u4.heap.size u4 W) (by kernel_rfl) ?_
  change wpAnyH _ _ _ _ _ _ _ _ u4.drew
  have c0_0 := (Below.refl u4.heap.size u4).drew
  refine Held.tk (v := .pointer (some ⟨u2.heap.size, 2, none⟩)) 0 (some 11) rfl (Held.y_field (k := 2) (s := 0) rfl rfl Try.underlying73 rfl (by kernel_rfl) rfl) c0_0 ?_
  simp only [Act.put, Z1, Z2, Z3]
  refine Held.tk (v := .slice v.x.A v.x.n v.x.c) 1 (some 12) rfl (Held.y_load rfl rfl (by kernel_rfl) (fun W hW => (q4.below hW hlt4).cell rfl)) c0_0 ?_
  simp only [Act.put, Z1, Z2, Z3]
  refine Held.tk (v := .pointer (some ⟨u2.heap.size, 1, none⟩)) 3 (some 14) rfl (Held.y_field (k := 1) (s := 0) rfl rfl Try.underlying73 rfl (by kernel_rfl) rfl) c0_0 ?_
  simp only [Act.put, Z1, Z2, Z3]
  refine Held.tk (v := .bool v.is) 4 (some 15) rfl (Held.y_load rfl rfl (by kernel_rfl) (fun W hW => (q4.below hW hlt4).cell rfl)) c0_0 ?_
  simp only [Act.put, Z1, Z2, Z3]
  refine Held.one 2 (by kernel_rfl) ?_
  refine Held.op_call 2 (some 13) 40 #[.slice v.x.A v.x.n v.x.c] rfl rfl rfl rfl (enters_of Try.func40 (by kernel_rfl) rfl) (by simp [Act.eval])
    (copied_any (HRD.out _ (bo.trans (c0_0.mono bo.size)))) ?_
  rintro e w1 ⟨y, rfl, hyz, hyo, hy, b1⟩
  have c0_1 := c0_0.trans (b1.mono c0_0.size)
  refine ⟨_, rfl, c0_1, ?_⟩
  simp only [Act.put, Z1, Z2, Z3]
  refine Held.tk (v := .slice y.A y.n y.c) 5 (some 4) rfl (Held.y_assign rfl rfl) c0_1 ?_
  simp only [Act.put, Z1, Z2, Z3]
  refine Held.tk (v := .bool v.is) 6 (some 5) rfl (Held.y_assign rfl rfl) c0_1 ?_
  simp only [Act.put, Z1, Z2, Z3]
  refine wpAnyH_done (by kernel_rfl) ?_ _
  go_wp2_with fail
  go_ret2
  exact ⟨y, rfl, hyz, hyo.less (Nat.le_trans bo.size c0_0.size), hy.less (fun b hb _ => Nat.le_trans (Nat.le_trans bo.size c0_0.size) hb), bo.trans (c0_1.mono bo.size)⟩
theorem Sto.writesCell {ow : Nat → Nat} {w w' : World} {s N : Nat} {W : Int} {es : List Ent} (H : Sto ow w s W N es) (hb : Below w.heap.size w w') : w'.cell? ⟨s, 1, none⟩ = some (.int .i64 W) := by
  obtain ⟨mv, hbs, _⟩ := H.blk
  exact (hbs.below hb hbs.lt).cell (i := 1) rfl
theorem Sto.wfW {ow : Nat → Nat} {w : World} {s N : Nat} {W : Int} {es : List Ent} (H : Sto ow w s W N es) (hN : N ≤ 1000000) : (Lit.int .i64 W).wf = true := by
  have := H.wf
  simp [Lit.wf, IntKind.min, IntKind.max, IntKind.signed, IntKind.bits]
  omega
theorem Sto.free {ow : Nat → Nat} {w : World} {s N : Nat} {W : Int} {es : List Ent} (H : Sto ow w s W N es) {r : Nat} (hr : w.heap.size ≤ r) : ow r = 0 := by
  rcases Nat.eq_zero_or_pos (ow r) with h | h
  · exact h
  · have := H.low r (by omega); omega
end Go.Proofs.Ytbippmbcgkicaaa.Sto
namespace Go.Proofs.Ytbippmbcgkicaaa.Sto
open Go.RowKit Go.Shelf Go.Proofs.Ytbippmbcgkicaaa Mem Held Sl Go.Proofs.Ytbippmbcgkicaaa.Range
attribute [local irreducible] wpList wpListIn Calls
section
variable {P : Program} {S : World → Prop} {ρ : Operand → Value} {o : Oper}
theorem y_remI (a b : Int) {t ty : TypeId} {x y : Operand} {k : IntKind} {r : Int} (ho : o.op = .binOp .rem t x y ty) (hx : ρ x = .int k a) (hy : ρ y = .int k b) (hb : b ≠ 0) (hr : a.tmod b = r) : ∀ w, S w → (execOp ρ o).run P w = .ok (.value (.int k r)) w := Held.y_int ho hx hy (Held.run_rem t k hb hr)
end
section
variable {P : Program} {ops : Array Oper} {Q : Exit → Act → World → Prop} {o : Oper} {a : Act} {w : World}
end
section
variable {P : Program} {ops : Array Oper} {rest : List Oper} {o : Oper} {a : Act} {w : World} {Q : Exit → Act → World → Prop}
theorem wpList_build_row1 (hgd : o.guard = none) (ts e : TypeId) (n : Nat) (parts : Array (Nat × Operand)) (ho : o.op = .buildSlice ts n parts) (hu : P.underlying ts = some (.slice e)) (k : IntKind) (bytes : Nat) (hinfo : (P.info? e).map (fun i => (i.zero, i.size, i.bytes)) = some (some (.int k 0), 1, bytes))
    (zs : List Int) (hn : zs.length = n) (hp : (parts.map fun (i, x) => (i, a.eval x)).toList = ((zs.map (Value.int k)).zipIdx 0).map fun x => (x.2, x.1)) (hwf : ∀ z ∈ zs, (Lit.int k z).wf = true) (h0 : 0 < n) (h24 : n ≤ 16777216)
    (h : ∀ w', Row w' w.heap.size e k zs → w.grownBy w' none → Hid (w'.heap.size = w.heap.size + 1) → wpList P ops Q rest (a.put o.dst (.slice (some ⟨w.heap.size, 0, none⟩) n n)) w') : wpList P ops Q (o :: rest) a w := by
  obtain ⟨ie, hie, hz0, hs, hb⟩ := info_parts hinfo
  refine Go.wpList_buildSlice hgd ts e n parts ho (arr k zs) ie _ hu hie hz0 (by rw [hs]; omega) (by rw [hs]; omega) ?_ (h _ ⟨hwf, heap_alloc_new w _⟩ (World.grownBy_alloc w _ none) (Lib.hid (by simp)))
  rw [hp, hs]
  exact Go.Great.fill_flat (zs.map (Value.int k)) _ (fun v hv => by obtain ⟨z, _, rfl⟩ := List.mem_map.1 hv; rfl) (by simp [hn])
end
end Go.Proofs.Ytbippmbcgkicaaa.Sto
namespace Go.Proofs.Ytbippmbcgkicaaa.Sto
open Go.RowKit Go.Shelf Go.Proofs.Ytbippmbcgkicaaa Mem Held Sl Go.Proofs.Ytbippmbcgkicaaa.Range
attribute [local irreducible] wpList wpListIn Calls
structure SI (ow : Nat → Nat) (w : World) (s : Nat) (W : Int) (N : Nat) (es : List Ent) : Prop where
  sto : Sto ow w s W N es
  good : GoodL (absL es) W
section
variable {ow : Nat → Nat} {w : World} {s N : Nat} {W : Int} {es : List Ent} {k k' : Nm}
theorem SI.some (H : SI ow w s W N es) : ∀ e ∈ es, e.us ≠ [] := fun e he h => by
  have := (H.good.2 e.p (abs_mem he)).ne
  simp [Ent.p, h] at this
theorem SI.below {w' : World} (H : SI ow w s W N es) (hb : Below w.heap.size w w') : SI ow w' s W N es := ⟨H.sto.below hb, H.good⟩
theorem SI.keep {w' : World} (H : SI ow w s W N es) (hk : KeepsP (fun r => ow r ≠ 0) w w') : SI ow w' s W N es := ⟨H.sto.keep hk, H.good⟩
theorem SI.more {N' : Nat} (H : SI ow w s W N es) (hN : N ≤ N') : SI ow w s W N' es := ⟨H.sto.more hN, H.good⟩
theorem put_si (H : SI ow w s W N es) (hk : k.length ≤ maxLen) {x : Bs} (hx : Rd (fun b => ow b ≤ 1) w x) (hN : N ≤ 900000) :
    Calls Try.prog 20 #[.pointer (some ⟨s, 0, none⟩), encStr k, .slice x.A x.n x.c] w fun r w' => r = .returned (.tuple #[]) ∧ ∃ ow' es', SI ow' w' s (W + 1) (N + 3) es' ∧ Chg ow ow' w w' ∧ absL es' = putP (W + 1) k x.zs (absL es) := by
  refine (put_any H.sto hk hx hN).mono ?_
  rintro r w' ⟨rfl, ow', es', h1, h2, h3⟩
  exact ⟨rfl, ow', es', ⟨h1, by rw [h3]; exact good_put H.good⟩, h2, h3⟩
theorem get_si (H : SI ow w s W N es) (hk : k.length ≤ maxLen) (hN : N ≤ 900000) :
    Calls Try.prog 26 #[.pointer (some ⟨s, 0, none⟩), encStr k] w fun r w' => ∃ y : Bs, r = .returned (.tuple #[.slice y.A y.n y.c, .bool (shwP (absL es) k).1]) ∧ y.zs = (shwP (absL es) k).2 ∧ Mem.Own w' w.heap.size 5 .u8 (.slice y.A y.n y.c) y.zs ∧ Rd (fun b => w.heap.size ≤ b) w' y ∧ Below w.heap.size w w' := by
  obtain ⟨p, v, HS, hsh, hp⟩ := shows_any H.sto hk H.some (by omega)
  refine (get_core HS).mono ?_
  rintro r w' ⟨y, rfl, h1, h2, h3, h4⟩
  rw [hsh]
  exact ⟨y, rfl, h1, by rw [h1]; exact h2, h3, h4⟩
theorem versions_si (H : SI ow w s W N es) (hk : k.length ≤ maxLen) :
    Calls Try.prog 29 #[.pointer (some ⟨s, 0, none⟩), encStr k] w fun r w' => r = .returned (.int .i64 ((verP (absL es) k).length : Int)) ∧ w = w' := by
  by_cases hm : ∃ e ∈ es, e.k = k
  · obtain ⟨e, he, rfl⟩ := hm
    have hv : (verP (absL es) e.k).length = e.vs.length := by
      unfold verP
      rw [H.sto.ent he]
      simp [Ent.p]
    rw [hv]
    exact versions_some H.sto he
  · have hne : ∀ e ∈ es, e.k ≠ k := fun e he h => hm ⟨e, he, h⟩
    have hv : (verP (absL es) k).length = 0 := by
      unfold verP
      rw [ent_no hne]
      rfl
    rw [hv]
    exact versions_none H.sto hk hne
theorem writes_si (H : SI ow w s W N es) : Calls Try.prog 30 #[.pointer (some ⟨s, 0, none⟩)] w fun r w' => r = .returned (.int .i64 W) ∧ w = w' := writes_any H.sto
end
theorem new_si (w : World) : Calls Try.prog 7 #[] w fun r w' => ∃ s ow, r = .returned (.pointer (some ⟨s, 0, none⟩)) ∧ SI ow w' s 0 0 [] ∧ Below w.heap.size w w' ∧ (∀ b, ow b ≠ 0 → w.heap.size ≤ b) := by
  refine (new_any w).mono ?_
  rintro r w' ⟨s, ow, rfl, h1, h2, h3⟩
  exact ⟨s, ow, rfl, ⟨h1, GoodL.nil 0⟩, h2, h3⟩
theorem chg_below {ow ow' : Nat → Nat} {B : Nat} {w w' : World} (h : Chg ow ow' w w') (hB : B ≤ w.heap.size) (hn : ∀ b, ow b ≠ 0 → B ≤ b) : Below B w w' :=
  h.keep.below hB fun r hr => by
    rcases Nat.eq_zero_or_pos (ow r) with h0 | h0
    · show ow r ≤ 1
      omega
    · have := hn r (by omega); omega
theorem chg_new {ow ow' : Nat → Nat} {B : Nat} {w w' : World} (h : Chg ow ow' w w') (hB : B ≤ w.heap.size) (hn : ∀ b, ow b ≠ 0 → B ≤ b) : ∀ b, ow' b ≠ 0 → B ≤ b := fun b hb => by
  rcases Nat.lt_or_ge b w.heap.size with h1 | h1
  · rw [h.same b h1] at hb
    exact hn b hb
  · omega
set_option maxRecDepth 100000 in
set_option maxHeartbeats 8000000 in
theorem awake18_any (w : World) : Calls Try.prog 8 #[] w fun r w' => r = .returned (.bool true) ∧ Below w.heap.size w w' := by
  go_enter Try.func8, Try.ntmps8
  go_wp2_with fail
  refine (new_si w).mono ?_
  rintro r1 w1 ⟨s, ow1, rfl, H1, b1, n1⟩
  go_wp2_with (refine wpList_build_row1 (w := w1) rfl 31 5 1 _ rfl Try.underlying31 .u8 1 Help.info_u8 [1] rfl (by simp [Act.eval]) (fun z hz => by rw [List.mem_singleton.1 hz]; rfl) (by omega) (by omega) ?_; intro w2 q2 g2 z2)
  have b12 : Below w1.heap.size w1 w2 := (Below.refl _ _).grown g2 (Nat.le_refl _) (by simp)
  have H2 := H1.below b12
  have hr2 : Rd (fun b => ow1 b ≤ 1) w2 (⟨some ⟨w1.heap.size, 0, none⟩, 1, 1, [1]⟩ : Bs) := ⟨q2.ints (n := 1) (by simp), by show (1 : Nat) ≤ 1099511627776; omega, fun b off p e _ => by injection e with e; injection e with e; rw [← e, H1.sto.free (Nat.le_refl _)]; omega⟩
  refine (put_si H2 (k := [97]) (by decide) hr2 (by omega)).mono ?_
  rintro r3 w3 ⟨rfl, ow3, es3, H3, C3, L3⟩
  have hsh : shwP (absL es3) [97] = (true, [1]) := by rw [L3, shw_put, if_pos rfl]
  have HG := Lib.hid (get_si H3 (k := [97]) (by decide) (by omega))
  rw [hsh] at HG
  clear L3 hsh hr2
  go_wp2_with fail
  refine HG.out.mono ?_
  rintro r4 w4 ⟨y, rfl, hyz, hyo, hyr, b4⟩
  obtain ⟨A, n, c, zs⟩ := y
  obtain rfl : zs = [1] := hyz
  obtain rfl : n = 1 := hyr.len.symm
  clear hyo hyr
  go_wp2_with fail
  refine (writes_si (H3.below b4)).mono ?_
  rintro r5 w5 ⟨rfl, rfl⟩
  go_wp2_with fail
  go_ret
  have n2 : ∀ b, ow1 b ≠ 0 → w.heap.size ≤ b := n1
  have c1 := b1.trans (b12.mono b1.size)
  have c3 := chg_below C3 c1.size n1
  exact ⟨rfl, (c1.trans c3).trans (b4.mono (c1.trans c3).size)⟩
end Go.Proofs.Ytbippmbcgkicaaa.Sto
namespace Go.Proofs
open Go.Shelf Go.Sort Go.RowKit Go.Lib
def Try.search_ren : Go.Shelf.Ren := ⟨fun | 16 => 55 | n => n, fun | 3 => 3 | 35 => 37 | 4 => 4 | 38 => 54 | n => n, fun | n => n⟩
theorem Try.search : Go.Proofs.SlLaysO.n16 Try.prog Try.search_ren := {
  mixed := by kernel_rfl
  f16 := Try.func55.trans (congrArg some (by kernel_rfl))
  t3 := Try.underlying3
  a3 := Try.isAgg3
  z3 := Try.sizeOf3
  v3 := Try.zeroValue3
  t4 := Try.underlying4
  a4 := Try.isAgg4
  z4 := Try.sizeOf4
  v4 := Try.zeroValue4
  t35 := Try.underlying37
  a35 := Try.isAgg37
  z35 := Try.sizeOf37
  v35 := Try.zeroValue37
  t38 := Try.underlying54
  a38 := Try.isAgg54
  z38 := Try.sizeOf54
  v38 := Try.zeroValue54 }
theorem Try.sort_Search (g : Nat) (cb : Array Value) (n : Nat) (p : Nat → Bool) (w : World) (eg : ∀ args w, (callFunc g args).run Try.prog w = .ok (.enter g args) w) (hsz : n < 4611686018427387904)
    (hf : ∀ (m : Nat) (os : Array Obj) (i : Nat), i < n → Calls Try.prog g (#[.int .i64 i] ++ cb) (grow (w.drewN m) os) fun e w' => e = .returned (.bool (p i)) ∧ ∃ q os', w' = grow ((grow (w.drewN m) os).drewN q) os')
    (hmono : ∀ a b, a ≤ b → b < n → p a = true → p b = true) :
    Calls Try.prog 55 #[.int .i64 n, .func (.func g) #[] cb] w fun e w' => e = .returned (.int .i64 ((List.range n).countP (fun i => !p i) : Nat)) ∧ ∃ q os, w' = grow (w.drewN q) os := Any.sort_Search Try.search g cb n p w eg hsz hf hmono
end Go.Proofs
namespace Go.Proofs.Ytbippmbcgkicaaa.Sto
open Go.RowKit Go.Shelf Go.Proofs.Ytbippmbcgkicaaa Mem Held Sl Go.Proofs.Ytbippmbcgkicaaa.Range
attribute [local irreducible] wpList wpListIn Calls
open Go.Sort (grow)
def cntC (j : Int) (us : List Vw) : Nat := us.countP fun v => decide (v.t ≤ j)
def bhC (j : Int) (us : List Vw) : Vw := if cntC j us = 0 then Vw.none else us.getD (cntC j us - 1) Vw.none
theorem bhC_p (j : Int) (us : List Vw) : (bhC j us).p = bhP j (us.map Vw.p) := by
  have e : (us.map Vw.p).countP (fun v => decide (v.t ≤ j)) = cntC j us := by
    rw [List.countP_map]
    rfl
  unfold bhC bhP
  rw [e]
  by_cases h : cntC j us = 0
  · rw [if_pos h, if_pos h]
    rfl
  · rw [if_neg h, if_neg h, List.getD_eq_getElem?_getD, List.getD_eq_getElem?_getD, List.getElem?_map]
    cases us[cntC j us - 1]? <;> rfl
theorem cnt_range (j : Int) (us : List Vw) : (List.range us.length).countP (fun i => !decide (j < (us.getD i Vw.none).t)) = cntC j us := by
  have h : us = (List.range us.length).map (fun i => us.getD i Vw.none) := by
    apply List.ext_getElem
    · simp
    · intro i h1 h2
      simp only [List.getElem_map, List.getElem_range]
      rw [List.getD_eq_getElem?_getD, List.getElem?_eq_getElem h1]
      rfl
  unfold cntC
  conv => rhs; rw [h, List.countP_map]
  refine List.countP_congr fun i _ => ?_
  simp only [Function.comp, Bool.not_eq_true', decide_eq_false_iff_not, decide_eq_true_eq]
  omega
set_option maxRecDepth 100000 in
set_option maxHeartbeats 4000000 in
theorem behind1_any (bh bw h g n c i : Nat) (j ti : Int) (u : World) (hbh : u.cell? ⟨bh, 0, none⟩ = some (.pointer (some ⟨h, 0, none⟩))) (hbw : u.cell? ⟨bw, 0, none⟩ = some (.int .i64 j)) (hh : u.cell? ⟨h, 1, none⟩ = some (.slice (some ⟨g, 0, none⟩) n c)) (hti : u.cell? ⟨g, 0 + i * 3, none⟩ = some (.int .i64 ti)) (hin : i < n) :
    Calls Try.prog 56 #[.int .i64 (i : Int), .pointer (some ⟨bh, 0, none⟩), .pointer (some ⟨bw, 0, none⟩)] u fun e w' => e = .returned (.bool (decide (j < ti))) ∧ w' = u.drew := by
  obtain ⟨p, hp⟩ : ∃ p, decide (j < ti) = p := ⟨_, rfl⟩
  rw [hp]
  have HP := Lib.hid hp
  clear hp
  go_enter Try.func56, Try.ntmps56
  go_wp2_with fail
  refine wp_region_held (S := fun W => Help.Still u W) (by kernel_rfl) ?_
  change wpAnyH _ _ _ _ _ _ _ _ u.drew
  have T0 : Help.Still u u.drew := ⟨1, rfl⟩
  refine Held.tk (v := .pointer (some ⟨h, 0, none⟩)) 0 (some 5) rfl (Held.y_load rfl rfl (by kernel_rfl) (fun W hW => (hW.cell _).trans hbh)) T0 ?_
  simp only [Act.put, Z1, Z2, Z3]
  refine Held.tk (v := .pointer (some ⟨h, 0, none⟩)) 1 (some 6) rfl (Sl.y_nil rfl rfl) T0 ?_
  simp only [Act.put, Z1, Z2, Z3]
  refine Held.tk (v := .pointer (some ⟨h, 1, none⟩)) 2 (some 7) rfl (Held.y_field (k := 1) (s := 0) rfl rfl Try.underlying71 rfl (by kernel_rfl) rfl) T0 ?_
  simp only [Act.put, Z1, Z2, Z3]
  refine Held.tk (v := .slice (some ⟨g, 0, none⟩) n c) 3 (some 8) rfl (Held.y_load rfl rfl (by kernel_rfl) (fun W hW => (hW.cell _).trans hh)) T0 ?_
  simp only [Act.put, Z1, Z2, Z3]
  refine Held.tk (v := .int .i64 (i : Int)) 4 (some 9) rfl (Held.y_move rfl rfl) T0 ?_
  simp only [Act.put, Z1, Z2, Z3]
  refine Held.tk (v := .pointer (some ⟨g, 0 + i * 3, none⟩)) 5 (some 10) rfl (Held.y_addr rfl rfl rfl (fun W => Rs.run_addr_of (P := Try.prog) 69 73 g 0 n c i 3 .i64 Try.underlying69 (by kernel_rfl) (hin) W)) T0 ?_
  simp only [Act.put, Z1, Z2, Z3]
  refine Held.tk (v := .pointer (some ⟨g, 0 + i * 3, none⟩)) 6 (some 11) rfl (Held.y_field (k := 0) (s := 0) rfl rfl Try.underlying73 rfl (by kernel_rfl) rfl) T0 ?_
  simp only [Act.put, Z1, Z2, Z3]
  refine Held.tk (v := .int .i64 ti) 7 (some 12) rfl (Held.y_load rfl rfl (by kernel_rfl) (fun W hW => (hW.cell _).trans hti)) T0 ?_
  simp only [Act.put, Z1, Z2, Z3]
  refine Held.tk (v := .int .i64 j) 8 (some 13) rfl (Held.y_load rfl rfl (by kernel_rfl) (fun W hW => (hW.cell _).trans hbw)) T0 ?_
  simp only [Act.put, Z1, Z2, Z3]
  refine Held.tk (v := .bool p) 9 (some 14) rfl (Held.y_gtr rfl rfl rfl (HP.out)) T0 ?_
  simp only [Act.put, Z1, Z2, Z3]
  refine Held.tk (v := .bool p) 10 (some 4) rfl (Held.y_assign rfl rfl) T0 ?_
  simp only [Act.put, Z1, Z2, Z3]
  refine wpAnyH_done (by kernel_rfl) ?_ _
  go_wp2_with fail
  go_ret
  exact ⟨rfl, rfl⟩
theorem grow_nil (w : World) : grow w #[] = w := by simp [grow]
set_option maxRecDepth 100000 in
set_option maxHeartbeats 8000000 in
theorem behind_any {ow : Nat → Nat} {w : World} {h : Nat} {vs : List Bs} {us : List Vw} (H : HistAt ow w h vs us) (hup : (us.map (·.t)).Pairwise (· < ·)) (hl : us.length ≤ 1000000) (j : Int) :
    Calls Try.prog 39 #[.pointer (some ⟨h, 0, none⟩), .int .i64 j] w fun r w' => r = .returned (.agg #[.int .i64 (bhC j us).t, .bool (bhC j us).is, .slice (bhC j us).x.A (bhC j us).x.n (bhC j us).x.c]) ∧ Below w.heap.size w w' := by
  obtain ⟨_, vv, ww, hb, _, hw, _⟩ := H
  have hlt := hb.lt
  obtain ⟨A, n, c, rfl, hn, hnc, _⟩ := hw.form2
  have hcw := hb.cell (i := 1) rfl
  have hmono : ∀ a b, a ≤ b → b < n → decide (j < (us.getD a Vw.none).t) = true → decide (j < (us.getD b Vw.none).t) = true := fun a b hab hbn ha => by
    have hn' := hn.out
    rcases Nat.eq_or_lt_of_le hab with rfl | hlt'
    · exact ha
    · have h1 := List.pairwise_iff_getElem.1 hup a b (by simp; omega) (by simp; omega) hlt'
      simp only [List.getElem_map] at h1
      simp only [decide_eq_true_eq, List.getD_eq_getElem?_getD, List.getElem?_eq_getElem (show a < us.length by omega), List.getElem?_eq_getElem (show b < us.length by omega), Option.getD_some] at ha ⊢
      omega
  have HS := Lib.hid (fun (W : World) (bh bw : Nat) (hB : Below w.heap.size w W) (q1 : Blk W bh 65 #[.pointer (some ⟨h, 0, none⟩)]) (q2 : Blk W bw 3 #[.int .i64 j]) =>
    Try.sort_Search 56 #[.pointer (some ⟨bh, 0, none⟩), .pointer (some ⟨bw, 0, none⟩)] n (fun i => decide (j < (us.getD i Vw.none).t)) W (enters_of Try.func56 (by kernel_rfl) rfl) (by have := hn.out; omega)
      (fun m os i hi => by
        have hg := below_grown_sl W.heap.size W m os (Nat.le_refl _)
        have hB2 := hB.trans (hg.mono hB.size)
        have hn' := hn.out
        obtain ⟨g, rfl, _⟩ := own_some hw (by omega)
        have hgl : g < w.heap.size := (OwnL.lt hw g rfl).2
        have hr := own_range hw (i := i) (by omega)
        have hcell : w.cell? ⟨g, 0 + i * 3, none⟩ = some (.int .i64 (us.getD i kV.d).t) := hr 0 _ rfl
        refine (behind1_any bh bw h g n c i j _ _ ((q1.below hg q1.lt).cell rfl) ((q2.below hg q2.lt).cell rfl) ((hb.below hB2 hlt).cell (i := 1) rfl) ((hB2.cell hgl).trans hcell) hi).mono ?_
        rintro e w' ⟨rfl, rfl⟩
        exact ⟨rfl, 1, #[], by rw [grow_nil]; rfl⟩) hmono)
  have hcnt := cnt_range j us
  rw [hn.out] at hcnt
  rw [hcnt] at HS
  have hcn : cntC j us ≤ us.length := List.countP_le_length
  by_cases h0 : cntC j us = 0
  · have hv : bhC j us = Vw.none := by unfold bhC; rw [if_pos h0]
    rw [hv]
    rw [h0] at HS
    clear hcnt hcn h0 hv hmono hup hw hl
    go_enter Try.func39, Try.ntmps39
    go_wp2_with (first
      | (refine wpList_box_cell (w := w) rfl 65 _ rfl (.pointer (some ⟨h, 0, none⟩)) rfl rfl ?_; intro u1 q1 g1 z1)
      | (refine wpList_box_cell (w := u1) rfl 3 _ rfl (.int .i64 j) rfl rfl ?_; intro u2 q2 g2 z2; have q1 := Blk.grown q1 g2 (by simp))
      | (refine wpList_alloc_blk (w := u2) rfl 73 rfl #[.int .i64 0, .bool false, .slice none 0 0] (by kernel_rfl) ?_; intro u3 qu3 gu3 zu3; have q1 := Blk.grown q1 gu3 (by simp); have q2 := Blk.grown q2 gu3 (by simp); have bo : Below w.heap.size w u3 := (((Below.refl _ w).grown g1 (Nat.le_refl _) (by simp)).grown g2 g1.size (by simp)).grown gu3 (Nat.le_trans g1.size g2.size) (by simp); have hc1 := Blk.cell q1 (i := 0) rfl; have hc2 := Blk.cell q2 (i := 0) rfl; have hch := (hb.below bo hlt).cell (i := 1) rfl))
    refine (HS.out u3 _ _ bo q1 q2).mono ?_
    rintro r4 w4 ⟨rfl, q, os, rfl⟩
    have b4 := below_grown_sl u3.heap.size u3 q os (Nat.le_refl _)
    have qu4 := qu3.below b4 qu3.lt
    generalize grow (u3.drewN q) os = w4 at b4 qu4 ⊢
    go_wp2_with (first
      | (refine wpList_store_blk (w := w4) rfl 73 _ _ rfl (u2.heap.size) 3 rfl 73 _ #[.int .i64 0, .bool false, .slice none 0 0] rfl qu4 (by kernel_rfl) rfl rfl (by kernel_rfl) ?_; intro w5 qw5 gw5 zw5)
      | (refine wpList_build_blk rfl 73 #[] rfl #[.int .i64 0, .bool false, .slice none 0 0] (by kernel_rfl) ?_))
    refine bodyPost_ret (results_blk rfl _ w5 u2.heap.size 3 73 _ rfl qw5 _ Try.underlying73 rfl (by kernel_rfl) rfl) rfl ?_
    exact ⟨rfl, (bo.trans (b4.mono bo.size)).grown gw5 (Nat.le_trans bo.size b4.size) (fun r e => by cases e; exact Nat.le_trans g1.size g2.size)⟩
  · obtain ⟨m, hm⟩ : ∃ m, cntC j us = m + 1 := ⟨cntC j us - 1, by omega⟩
    have hml : m < us.length := by omega
    have hv : bhC j us = us.getD m Vw.none := by unfold bhC; rw [if_neg h0, hm, Nat.add_sub_cancel]
    obtain ⟨v, hvv⟩ : ∃ v, us.getD m Vw.none = v := ⟨_, rfl⟩
    rw [hv, hvv]
    rw [hm] at HS
    obtain ⟨g, rfl, hn2⟩ := own_some hw (by omega)
    have hgl : g < w.heap.size := (OwnL.lt hw g rfl).2
    have hr := own_range hw hml
    have hr : w.rangeAt g (0 + m * 3) v.cells := by rw [← hvv]; exact hr
    have HR := Lib.hid hr
    have hmn : m < n := by have := hn.out; omega
    have HM := Lib.hid (show IntKind.i64.wrap (((m + 1 : Nat) : Int) - 1) = (m : Int) by simp [IntKind.wrap_i64]; omega)
    have HE := Lib.hid (show decide (((m + 1 : Nat) : Int) = 0) = false by simp; omega)
    generalize hmm : ((m + 1 : Nat) : Int) = m1 at HM HE HS
    clear hcnt hcn h0 hv hmono hup hw hl hm hml hvv hr hn hmm hn2
    go_enter Try.func39, Try.ntmps39
    go_wp2_with (first
      | (refine wpList_box_cell (w := w) rfl 65 _ rfl (.pointer (some ⟨h, 0, none⟩)) rfl rfl ?_; intro u1 q1 g1 z1)
      | (refine wpList_box_cell (w := u1) rfl 3 _ rfl (.int .i64 j) rfl rfl ?_; intro u2 q2 g2 z2; have q1 := Blk.grown q1 g2 (by simp))
      | (refine wpList_alloc_blk (w := u2) rfl 73 rfl #[.int .i64 0, .bool false, .slice none 0 0] (by kernel_rfl) ?_; intro u3 qu3 gu3 zu3; have q1 := Blk.grown q1 gu3 (by simp); have q2 := Blk.grown q2 gu3 (by simp); have bo : Below w.heap.size w u3 := (((Below.refl _ w).grown g1 (Nat.le_refl _) (by simp)).grown g2 g1.size (by simp)).grown gu3 (Nat.le_trans g1.size g2.size) (by simp); have hc1 := Blk.cell q1 (i := 0) rfl; have hc2 := Blk.cell q2 (i := 0) rfl; have hch := (hb.below bo hlt).cell (i := 1) rfl))
    refine (HS.out u3 _ _ bo q1 q2).mono ?_
    rintro r4 w4 ⟨rfl, q, os, rfl⟩
    have b4 := below_grown_sl u3.heap.size u3 q os (Nat.le_refl _)
    have qu4 := qu3.below b4 qu3.lt
    have hc4 := (q1.below b4 q1.lt).cell (i := 0) rfl
    have hch4 := (hb.below (bo.trans (b4.mono bo.size)) hlt).cell (i := 1) rfl
    have HR4 := Lib.hid (range_below HR.out (bo.trans (b4.mono bo.size)) hgl)
    clear hc1 hc2 hch
    generalize grow (u3.drewN q) os = w4 at b4 qu4 hc4 hch4 HR4 ⊢
    go_wp2_with (first
      | (refine Held.wpList_run (w := w4) rfl (v := .bool false) (Held.y_eqI (S := fun _ => True) rfl rfl rfl HE.out _ trivial) ?_)
      | (refine Held.wpList_run (w := w4) rfl (v := .int .i64 (m : Int)) (y_subI (S := fun _ => True) _ _ rfl rfl rfl HM.out _ trivial) ?_)
      | (refine Held.wpList_run (w := w4) rfl (v := .pointer (some ⟨g, 0 + m * 3, none⟩)) (Held.y_addr (S := fun _ => True) rfl rfl rfl (Rs.run_addr_of (P := Try.prog) 69 73 g 0 n c m 3 .i64 Try.underlying69 (by kernel_rfl) hmn) _ trivial) ?_)
      | (refine Held.wpList_run (w := w4) rfl (v := .agg #[.int .i64 v.t, .bool v.is, .slice v.x.A v.x.n v.x.c]) (Rs.y_load_range (S := fun W => W = w4) (cs := v.cells) rfl rfl Try.underlying73 rfl (by kernel_rfl) rfl (fun W hW => hW ▸ HR4.out) _ rfl) ?_)
      | (refine wpList_store_blk (w := w4) rfl 73 _ _ rfl (u2.heap.size) 3 rfl 73 _ #[.int .i64 v.t, .bool v.is, .slice v.x.A v.x.n v.x.c] rfl qu4 (by kernel_rfl) rfl rfl (by kernel_rfl) ?_; intro w5 qw5 gw5 zw5))
    refine bodyPost_ret (results_blk rfl _ w5 u2.heap.size 3 73 _ rfl qw5 _ Try.underlying73 rfl (by kernel_rfl) rfl) rfl ?_
    exact ⟨rfl, (bo.trans (b4.mono bo.size)).grown gw5 (Nat.le_trans bo.size b4.size) (fun r e => by cases e; exact Nat.le_trans g1.size g2.size)⟩
end Go.Proofs.Ytbippmbcgkicaaa.Sto
namespace Go.Proofs.Ytbippmbcgkicaaa.Sto
open Go.RowKit Go.Shelf Go.Proofs.Ytbippmbcgkicaaa Mem Held Sl Go.Proofs.Ytbippmbcgkicaaa.Range
attribute [local go_sem] Oper.semAt_some
attribute [local irreducible] wpList wpListIn Calls
def encE (x : Nm × Option Nat) : Array Value := #[encStr x.1, ptrV x.2]
def nxE (l : List (Nm × Option Nat)) (x : Nm × Option Nat) (l' : List (Nm × Option Nat)) : Prop := x ∈ l ∧ l' = l.filter fun p => !decide (p.1 = x.1)
def finE (l : List (Nm × Option Nat)) : Prop := l = []
theorem run_next_none {P : Program} {w : World} {r a c : Nat} {s : Array Nat} (ty : TypeId) (hr : w.heap[r]? = some (.mapIter none a s c)) : (Instr.next (.pointer (some ⟨r, 0, none⟩)) false ty).run P w = .ok (.tuple #[.bool false]) w := by
  simp only [Instr.next, getObj, Sem.run_bind, Sem.run, hr, Result.andThen]
  rfl
section
variable {P : Program} {ρ : Operand → Value} {o : Oper} {w w' : World} {v p : Value}
theorem run_opRange {t : TypeId} {m : Operand} (ho : o.op = .range t m) (hm : ρ m = p) (hr : (Instr.range t p).run P w = .ok v w') : (execOp ρ o).run P w = .ok (.value v) w' := by
  simp [execOp, ho, hm, hr, Result.andThen]
theorem run_opNext {it : Operand} (ho : o.op = .next it false) (hm : ρ it = p) (hr : (Instr.next p false o.type).run P w = .ok v w') : (execOp ρ o).run P w = .ok (.value v) w' := by
  simp [execOp, ho, hm, hr, Result.andThen]
theorem run_opEntry {it : Operand} (ho : o.op = .entry it) (hm : ρ it = p) (hr : (Instr.entry p).run P w = .ok v w') : (execOp ρ o).run P w = .ok (.value v) w' := by
  simp [execOp, ho, hm, hr, Result.andThen]
end
theorem kp_obj {S : Nat → Prop} {W W' : World} {r : Nat} (h : KeepsP S W W') (hs : S r) : ∀ o, W.heap[r]? = some o → W'.heap[r]? = some o := fun o ho => h.block r o hs ho
set_option maxRecDepth 100000 in
set_option maxHeartbeats 4000000 in
theorem nil_t (N bx : Nat) (w : World) (q : Blk w bx 62 #[.map none]) : SeqT Fence.wide N Try.prog 64 #[.pointer (some ⟨bx, 0, none⟩)] (fun r => r = bx) encE nxE finE [] w := by
  intro l J Jx W hW hJ hJx hY h00
  have q := q.after hW
  have hc := q.cell (i := 0) rfl
  obtain ⟨W2, hW2⟩ : ∃ W2, W2 = W.alloc (.mapIter none 0 #[] 0) := ⟨_, rfl⟩
  have hrun := run_range_nilMap W 62 _ _ Try.underlying62
  have J2 := hJ.same h00 (World.grownBy_alloc W (.mapIter none 0 #[] 0) none)
  have hr2 : (W.alloc (.mapIter none 0 #[] 0)).heap[W.heap.size]? = some (.mapIter none 0 #[] 0) := World.alloc_heap_new W _
  rw [← hW2] at hrun J2 hr2
  clear hY hW h00 hW2
  refine callsIn_of_wp Try.func64 rfl trivial ?_ rfl
  simp only [Try.ntmps64, List.size_toArray, List.length_cons, List.length_nil, Nat.reduceAdd, Nat.reduceSub, Array.replicate_succ, Array.replicate_zero, List.push_toArray, List.append_toArray, List.nil_append, List.cons_append]
  gi_wp2_with (refine wpListIn_ran (r := none) (w := W) rfl rfl (by intro c e; cases e) (run_opRange rfl rfl hrun) ?_)
  clear hc q hrun
  simp only [Act.put, Z1, Z2, Z3]
  gi_loopw [] (fun wr => J (fun _ => False) [] wr ∧ wr.heap[W.heap.size]? = some (.mapIter none 0 #[] 0)) (fun _ => 0)
  case atStart => exact ⟨J2, hr2⟩
  case round =>
    obtain ⟨Jk, hr⟩ := hrel
    clear J2 hr2
    gi_wp2_with (refine wpListIn_ran (r := none) (w := wr) rfl rfl (by intro c e; cases e) (run_opNext rfl rfl (run_next_none _ hr)) ?_)
    go_end0
    exact ⟨⟨_, rfl⟩, .inl ⟨_, [], rfl, Jk⟩⟩
set_option maxRecDepth 100000 in
set_option maxHeartbeats 8000000 in
theorem map_t (N bx b n : Nat) (w : World) (M : List (Nm × Option Nat)) (q : Blk w bx 62 #[.map (some b)]) (hM : MpS eP Try.prog 9 w b n M) : SeqT Fence.wide N Try.prog 64 #[.pointer (some ⟨bx, 0, none⟩)] (fun r => r = bx ∨ r = b) encE nxE finE M w := by
  intro l J Jx W hW hJ hJx hY h00
  have q := q.after hW
  have hM := hM.below hW
  have hc := q.cell (i := 0) rfl
  have hbl := hM.lt
  obtain ⟨W2, hrun, hrg, hg2, hz2⟩ := hM.range (T := 62) Try.underlying9 Try.underlying62
  have HY := Lib.hid hY
  clear hW hY hM
  refine callsIn_of_wp Try.func64 rfl trivial ?_ rfl
  simp only [Try.ntmps64, List.size_toArray, List.length_cons, List.length_nil, Nat.reduceAdd, Nat.reduceSub, Array.replicate_succ, Array.replicate_zero, List.push_toArray, List.append_toArray, List.nil_append, List.cons_append]
  gi_wp2_with (refine wpListIn_ran (r := none) (w := W) rfl rfl (by intro c e; cases e) (run_opRange rfl rfl hrun) ?_)
  have J2 := hJ.one h00 hg2 W.heap.size (Nat.le_refl _) (by omega)
  have q2 := q.grown hg2 (by simp)
  have hz2 := Lib.hid hz2
  clear hc q h00 hg2 hrun
  gi_loopw [] (fun wr => ∃ (rem : List (Nm × Option Nat)) (pv : Nat → Prop), pv W.heap.size ∧ J pv rem wr ∧ RgS eP Try.prog 9 wr b W.heap.size n M rem ∧ Blk wr bx 62 #[.map (some b)]) (fun wr => wr.rangeLeft b W.heap.size)
  case atStart => exact ⟨M, _, .inr rfl, J2, hrg, q2⟩
  case round =>
    clear J2 q2 hrg
    obtain ⟨rem, pv, hpv, Jk, hrg, q⟩ := hrel
    rcases hrg.next Try.underlying9 0 with ⟨rfl, hrun⟩ | ⟨x, w3, hx, hrun, hrg3, hg3, hz3, hlt3, hen⟩
    · gi_wp2_with (refine wpListIn_ran (r := none) (w := wr) rfl rfl (by intro c e; cases e) (run_opNext rfl rfl hrun) ?_)
      go_end0
      exact ⟨⟨_, rfl⟩, .inl ⟨_, [], rfl, Jk⟩⟩
    · have J3 := hJ.put _ _ _ _ _ Jk hpv hg3
      have q3 := q.grown hg3 (by
        intro e
        injection e with e
        subst e
        obtain ⟨D, left, cnt, ⟨_, _, _, _, _, _, _, _, _, h5, _⟩, _⟩ := hrg
        have hq : wr.heap[W.heap.size]? = some (.cells #[.map (some b)] 62 (0, 0)) := q
        rw [h5] at hq
        cases hq)
      obtain ⟨fn, tmps, assign, body, hy, hR⟩ := HY.out pv rem x _ w3 J3 ⟨hx, rfl⟩
      have hy : (Instr.yield l #[encStr x.1, ptrV x.2]).run Try.prog w3 = .ok (.round l fn tmps assign body) w3 := hy
      have hen : (Instr.entry (.pointer (some ⟨W.heap.size, 0, none⟩))).run Try.prog w3 = .ok (.tuple #[encStr x.1, ptrV x.2]) w3 := hen
      have hrun : (Instr.next (.pointer (some ⟨W.heap.size, 0, none⟩)) false 0).run Try.prog wr = .ok (.tuple #[.bool true, encStr x.1, ptrV x.2]) w3 := hrun
      obtain ⟨k, p⟩ := x
      simp only at hy hen hrun hR hrg3
      have HH := Lib.hid (And.intro hrg3 (And.intro hlt3 hx))
      clear J3 Jk hrg hg3 hz3 q hrg3 hlt3 hx
      gi_wp2_with (first
        | (refine wpListIn_ran (r := none) (w := wr) rfl rfl (by intro c e; cases e) (run_opNext rfl rfl hrun) ?_)
        | (refine wpListIn_ran (r := none) (w := w3) rfl rfl (by intro c e; cases e) (run_opEntry rfl rfl hen) ?_))
      refine ⟨fun h => (by cases h), ?_⟩
      refine hR.mono ?_
      rintro e w6 ⟨kp, (⟨rfl, J6⟩ | ⟨rfl, x6⟩)⟩
      · obtain ⟨hrg3, hlt3, hx⟩ := HH.out
        have kb := kp_obj kp (r := b) (.inl (.inr rfl))
        have kr := kp_obj kp (r := W.heap.size) (.inr hpv)
        have q6 := kp_obj kp (r := bx) (.inl (.inl rfl)) _ q3
        have hrg6 := hrg3.same kb kr
        have hlt6 : w6.rangeLeft b W.heap.size < wr.rangeLeft b W.heap.size := by rw [hrg3.left_same kb kr]; exact hlt3
        have H6 := Lib.hid (And.intro hrg6 (And.intro hlt6 q6))
        clear hR hy kp q3 kb kr hrg6 hlt6 q6 hrg3 hlt3 hx hen hrun
        gi_wp2_with fail
        go_roundw
        case rel => exact ⟨_, pv, hpv, J6, H6.out.1, H6.out.2.2⟩
        case measure => exact H6.out.2.1
      · gi_wp2_with fail
        exact bodyPost_ret (results_none rfl _ _ _) rfl ⟨⟨_, rfl⟩, .inr ⟨_, _, x6⟩⟩
set_option maxRecDepth 100000 in
set_option maxHeartbeats 4000000 in
theorem mapall_any (mv : Value) (w : World) (hm : mv.cells = #[mv]) : Calls Try.prog 54 #[mv] w fun r w' => ∃ bx, r = .returned (.func (.func 64) #[] #[.pointer (some ⟨bx, 0, none⟩)]) ∧ Blk w' bx 62 #[mv] ∧ w.heap.size ≤ bx ∧ Below w.heap.size w w' := by
  go_enter Try.func54, Try.ntmps54
  go_wp2_with (refine wpList_box_cell (w := w) rfl 62 _ rfl mv rfl hm ?_; intro u1 q1 g1 z1)
  go_ret
  exact ⟨_, rfl, q1, Nat.le_refl _, (Below.refl _ w).grown g1 (Nat.le_refl _) (by simp)⟩
theorem all_any {ow : Nat → Nat} {w : World} {s N : Nat} {W : Int} {es : List Ent} (H : Sto ow w s W N es) :
    Calls Try.prog 38 #[.pointer (some ⟨s, 0, none⟩)] w fun r w' => ∃ (bx : Nat) (Nd : Nat → Prop), r = .returned (.func (.func 64) #[] #[.pointer (some ⟨bx, 0, none⟩)]) ∧ (∀ K, SeqT Fence.wide K Try.prog 64 #[.pointer (some ⟨bx, 0, none⟩)] Nd encE nxE finE (es.map fun e => (e.k, some e.h)) w') ∧ (∀ r, Nd r → (w.heap.size ≤ r ∨ ow r = s + 2) ∧ r < w'.heap.size) ∧ Below w.heap.size w w' := by
  obtain ⟨mv, hb, hm⟩ := H.blk
  have hc := hb.cell (i := 0) rfl
  have hmc : mv.cells = #[mv] := by rcases hm with ⟨rfl, _⟩ | ⟨b, rfl, _⟩ <;> rfl
  go_enter Try.func38, Try.ntmps38
  go_wp2_with fail
  refine (mapall_any mv w hmc).mono ?_
  rintro r1 w1 ⟨bx, rfl, qx, hbx, b1⟩
  go_wp2_with fail
  go_ret
  rcases hm with ⟨rfl, rfl⟩ | ⟨b, rfl, hob, hM⟩
  · exact ⟨bx, _, rfl, fun K => nil_t K bx w1 qx, fun r hr => by cases hr; exact ⟨.inl hbx, qx.lt⟩, b1⟩
  · have hM1 := hM.below b1
    exact ⟨bx, _, rfl, fun K => map_t K bx b N w1 _ qx hM1, fun r hr => by
      rcases hr with rfl | rfl
      · exact ⟨.inl hbx, qx.lt⟩
      · exact ⟨.inr hob, hM1.lt⟩, b1⟩
end Go.Proofs.Ytbippmbcgkicaaa.Sto
namespace Go.Proofs.Ytbippmbcgkicaaa.Sto
open Go.RowKit Go.Shelf Go.Proofs.Ytbippmbcgkicaaa Mem Held Sl Go.Proofs.Ytbippmbcgkicaaa.Range
attribute [local go_sem] Oper.semAt_some
attribute [local irreducible] wpList wpListIn Calls
theorem stay_no {β : Type} : Stay (fun (_ : Nat → Prop) (_ : β) (_ : World) => False) where
  new _ _ _ _ _ h _ _ _ := h
  put _ _ _ _ _ h _ _ := h
end Go.Proofs.Ytbippmbcgkicaaa.Sto
