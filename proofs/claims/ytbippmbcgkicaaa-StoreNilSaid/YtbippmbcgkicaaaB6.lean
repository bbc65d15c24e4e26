/-
  Package store's Flip, and what is asked of a store first (awake), by their contracts.
  Package store's calls, by what they make of what the store says; what is asked of a store first (awake).
  All names of a store, in no order: package store's all and the library's maps.All, and the iterators that they tell, by their contracts.
  The library's contracts of slices.Sort at strings and of sort.Search, laid at this program by the library's own tool.
  A nil store's Names, Fork and Roll, the library's slices.Values, and a list out of an iterator that tells nothing, by their contracts.
-/
import Derived.Test.YtbippmbcgkicaaaB5
import Derived.Test.YtbippmbcgkicaaaB4
import Derived.Shelf.Sort.Plain
import Derived.Shelf.Slices.In.SortNone
import Derived.Shelf.SlSorted.Search
import Derived.Ground.SlsoProg
import Derived.Ground.NamesProg
import Derived.Test.YtbippmbcgkicaaaProg
set_option linter.unusedVariables false
namespace Go.Proofs.Ytbippmbcgkicaaa.Sto
open Go.RowKit Go.Shelf Go.Proofs.Ytbippmbcgkicaaa Mem Held Sl Go.Proofs.Ytbippmbcgkicaaa.Range
attribute [local irreducible] wpList wpListIn Calls
section
variable {P : Program} {S : World → Prop} {ρ : Operand → Value} {o : Oper}
theorem y_quoI (a b : Int) {t ty : TypeId} {x y : Operand} {k : IntKind} {r : Int} (ho : o.op = .binOp .quo t x y ty) (hx : ρ x = .int k a) (hy : ρ y = .int k b) (hb : b ≠ 0) (hr : k.wrap (a.tdiv b) = r) : ∀ w, S w → (execOp ρ o).run P w = .ok (.value (.int k r)) w := Held.y_int ho hx hy (Held.run_quo t k hb hr)
end
section
variable {P : Program} {ops : Array Oper} {Q : Exit → Act → World → Prop} {o : Oper} {a : Act} {w : World}
end
section
variable {P : Program} {ops : Array Oper} {rest : List Oper} {o : Oper} {a : Act} {w : World} {Q : Exit → Act → World → Prop}
theorem wpList_build_row1 (hgd : o.guard = none) (ts e : TypeId) (n : Nat) (parts : Array (Nat × Operand)) (ho : o.op = .buildSlice ts n parts) (hu : P.underlying ts = some (.slice e)) (k : IntKind) (bytes : Nat) (hinfo : (P.info? e).map (fun i => (i.zero, i.size, i.bytes)) = some (some (.int k 0), 1, bytes))
    (zs : List Int) (hn : zs.length = n) (hp : (parts.map fun (i, x) => (i, a.eval x)).toList = ((zs.map (Value.int k)).zipIdx 0).map fun x => (x.2, x.1)) (hwf : ∀ z ∈ zs, (Lit.int k z).wf = true) (h0 : 0 < n) (h24 : n ≤ 16777216)
    (h : ∀ w', Row w' w.heap.size e k zs → w.grownBy w' none → Hid (w'.heap.size = w.heap.size + 1) → wpList P ops Q rest (a.put o.dst (.slice (some ⟨w.heap.size, 0, none⟩) n n)) w') : wpList P ops Q (o :: rest) a w := by
  obtain ⟨ie, hie, hz0, hs, hb⟩ := info_parts hinfo
  refine Go.wpList_buildSlice hgd ts e n parts ho (arr k zs) ie _ hu hie hz0 (by rw [hs]; omega) (by rw [hs]; omega) ?_ (h _ ⟨hwf, heap_alloc_new w _⟩ (World.grownBy_alloc w _ none) (Lib.hid (by simp)))
  rw [hp, hs]
  exact Go.Great.fill_flat (zs.map (Value.int k)) _ (fun v hv => by obtain ⟨z, _, rfl⟩ := List.mem_map.1 hv; rfl) (by simp [hn])
end
set_option maxRecDepth 100000 in
set_option maxHeartbeats 8000000 in
theorem flip_no {S0 : Value} {w : World} {k : Nm} {bit : Int} {R : Nat → Prop} {p : Option Nat} {v : Vw} (H : Shows S0 w k R p v) (hw : (Lit.int .i64 bit).wf = true) (hb : bit < 0 ∨ (v.x.n : Int) ≤ bit / 8) :
    Calls Try.prog 17 #[S0, encStr k, .int .i64 bit] w fun r w' => r = .returned (.bool false) ∧ Below w.heap.size w w' := by
  have hbw := wf_i64 hw
  clear hw
  by_cases h0 : bit < 0
  · clear hb
    go_enter Try.func17, Try.ntmps17
    go_wp2_with fail
    refine (H.find w (Below.refl _ _)).mono ?_
    rintro r1 w1 ⟨rfl, rfl⟩
    go_wp2_with fail
    refine (H.now w (Below.refl _ _)).mono ?_
    rintro r2 u2 ⟨rfl, b2⟩
    go_wp2_with (first
      | (refine wpList_alloc_blk (w := u2) rfl 73 rfl #[.int .i64 0, .bool false, .slice none 0 0] (by kernel_rfl) ?_; intro u3 qu3 gu3 zu3; have bo3 : Below w.heap.size w u3 := b2.grown gu3 b2.size (by simp))
      | (refine wpList_store_blk (w := u3) rfl 73 _ _ rfl u2.heap.size 3 rfl 73 _ #[.int .i64 v.t, .bool v.is, .slice v.x.A v.x.n v.x.c] rfl qu3 (by kernel_rfl) rfl rfl (by kernel_rfl) ?_; intro u4 q4 g4 z4; have bo : Below w.heap.size w u4 := bo3.grown g4 bo3.size (fun r e => by cases e; exact b2.size); have hlt4 := q4.lt; have hcx := q4.cell (i := 2) rfl))
    go_ret
    exact ⟨rfl, bo⟩
  · obtain ⟨b, rfl⟩ : ∃ b : Nat, bit = (b : Int) := ⟨bit.toNat, by omega⟩
    have h1 := hb.resolve_left h0
    have HQ := Lib.hid (show IntKind.i64.wrap ((b : Int).tdiv 8) = ((b / 8 : Nat) : Int) by rw [Int.tdiv_eq_ediv_of_nonneg (by omega)]; simp [IntKind.wrap_i64]; omega)
    have HG := Lib.hid (show decide ((v.x.n : Int) ≤ ((b / 8 : Nat) : Int)) = true by simp; omega)
    clear hb h1 hbw
    go_enter Try.func17, Try.ntmps17
    go_wp2_with fail
    refine (H.find w (Below.refl _ _)).mono ?_
    rintro r1 w1 ⟨rfl, rfl⟩
    go_wp2_with fail
    refine (H.now w (Below.refl _ _)).mono ?_
    rintro r2 u2 ⟨rfl, b2⟩
    go_wp2_with (first
      | (refine wpList_alloc_blk (w := u2) rfl 73 rfl #[.int .i64 0, .bool false, .slice none 0 0] (by kernel_rfl) ?_; intro u3 qu3 gu3 zu3; have bo3 : Below w.heap.size w u3 := b2.grown gu3 b2.size (by simp))
      | (refine wpList_store_blk (w := u3) rfl 73 _ _ rfl u2.heap.size 3 rfl 73 _ #[.int .i64 v.t, .bool v.is, .slice v.x.A v.x.n v.x.c] rfl qu3 (by kernel_rfl) rfl rfl (by kernel_rfl) ?_; intro u4 q4 g4 z4; have bo : Below w.heap.size w u4 := bo3.grown g4 bo3.size (fun r e => by cases e; exact b2.size); have hlt4 := q4.lt; have hcx := q4.cell (i := 2) rfl)
      | (refine Held.wpList_run (w := u4) rfl (v := .int .i64 ((b / 8 : Nat) : Int)) (y_quoI (S := fun _ => True) _ _ rfl rfl rfl (by decide) HQ.out _ trivial) ?_)
      | (refine Held.wpList_run (w := u4) rfl (v := .bool true) (y_geqI (S := fun _ => True) _ _ rfl rfl rfl HG.out _ trivial) ?_))
    go_ret
    exact ⟨rfl, bo⟩
end Go.Proofs.Ytbippmbcgkicaaa.Sto
namespace Go.Proofs.Ytbippmbcgkicaaa.Sto
open Go.RowKit Go.Shelf Go.Proofs.Ytbippmbcgkicaaa Mem Held Sl Go.Proofs.Ytbippmbcgkicaaa.Range
attribute [local irreducible] wpList wpListIn Calls
structure SI (ow : Nat → Nat) (w : World) (s : Nat) (W : Int) (N : Nat) (es : List Ent) : Prop where
  sto : Sto ow w s W N es
  good : GoodL (absL es) W
section
variable {ow : Nat → Nat} {w : World} {s N : Nat} {W : Int} {es : List Ent} {k k' : Nm}
theorem SI.some (H : SI ow w s W N es) : ∀ e ∈ es, e.us ≠ [] := fun e he h => by
  have := (H.good.2 e.p (abs_mem he)).ne
  simp [Ent.p, h] at this
theorem SI.below {w' : World} (H : SI ow w s W N es) (hb : Below w.heap.size w w') : SI ow w' s W N es := ⟨H.sto.below hb, H.good⟩
theorem SI.keep {w' : World} (H : SI ow w s W N es) (hk : KeepsP (fun r => ow r ≠ 0) w w') : SI ow w' s W N es := ⟨H.sto.keep hk, H.good⟩
theorem SI.more {N' : Nat} (H : SI ow w s W N es) (hN : N ≤ N') : SI ow w s W N' es := ⟨H.sto.more hN, H.good⟩
theorem put_si (H : SI ow w s W N es) (hk : k.length ≤ maxLen) {x : Bs} (hx : Rd (fun b => ow b ≤ 1) w x) (hN : N ≤ 900000) :
    Calls Try.prog 20 #[.pointer (some ⟨s, 0, none⟩), encStr k, .slice x.A x.n x.c] w fun r w' => r = .returned (.tuple #[]) ∧ ∃ ow' es', SI ow' w' s (W + 1) (N + 3) es' ∧ Chg ow ow' w w' ∧ absL es' = putP (W + 1) k x.zs (absL es) := by
  refine (put_any H.sto hk hx hN).mono ?_
  rintro r w' ⟨rfl, ow', es', h1, h2, h3⟩
  exact ⟨rfl, ow', es', ⟨h1, by rw [h3]; exact good_put H.good⟩, h2, h3⟩
theorem get_si (H : SI ow w s W N es) (hk : k.length ≤ maxLen) (hN : N ≤ 900000) :
    Calls Try.prog 26 #[.pointer (some ⟨s, 0, none⟩), encStr k] w fun r w' => ∃ y : Bs, r = .returned (.tuple #[.slice y.A y.n y.c, .bool (shwP (absL es) k).1]) ∧ y.zs = (shwP (absL es) k).2 ∧ Mem.Own w' w.heap.size 5 .u8 (.slice y.A y.n y.c) y.zs ∧ Rd (fun b => w.heap.size ≤ b) w' y ∧ Below w.heap.size w w' := by
  obtain ⟨p, v, HS, hsh, hp⟩ := shows_any H.sto hk H.some (by omega)
  refine (get_core HS).mono ?_
  rintro r w' ⟨y, rfl, h1, h2, h3, h4⟩
  rw [hsh]
  exact ⟨y, rfl, h1, by rw [h1]; exact h2, h3, h4⟩
theorem writes_si (H : SI ow w s W N es) : Calls Try.prog 30 #[.pointer (some ⟨s, 0, none⟩)] w fun r w' => r = .returned (.int .i64 W) ∧ w = w' := writes_any H.sto
end
theorem new_si (w : World) : Calls Try.prog 7 #[] w fun r w' => ∃ s ow, r = .returned (.pointer (some ⟨s, 0, none⟩)) ∧ SI ow w' s 0 0 [] ∧ Below w.heap.size w w' ∧ (∀ b, ow b ≠ 0 → w.heap.size ≤ b) := by
  refine (new_any w).mono ?_
  rintro r w' ⟨s, ow, rfl, h1, h2, h3⟩
  exact ⟨s, ow, rfl, ⟨h1, GoodL.nil 0⟩, h2, h3⟩
theorem chg_below {ow ow' : Nat → Nat} {B : Nat} {w w' : World} (h : Chg ow ow' w w') (hB : B ≤ w.heap.size) (hn : ∀ b, ow b ≠ 0 → B ≤ b) : Below B w w' :=
  h.keep.below hB fun r hr => by
    rcases Nat.eq_zero_or_pos (ow r) with h0 | h0
    · show ow r ≤ 1
      omega
    · have := hn r (by omega); omega
set_option maxRecDepth 100000 in
set_option maxHeartbeats 8000000 in
theorem awake18_any (w : World) : Calls Try.prog 8 #[] w fun r w' => r = .returned (.bool true) ∧ Below w.heap.size w w' := by
  go_enter Try.func8, Try.ntmps8
  go_wp2_with fail
  refine (new_si w).mono ?_
  rintro r1 w1 ⟨s, ow1, rfl, H1, b1, n1⟩
  go_wp2_with (refine wpList_build_row1 (w := w1) rfl 31 5 1 _ rfl Try.underlying31 .u8 1 Help.info_u8 [1] rfl (by simp [Act.eval]) (fun z hz => by rw [List.mem_singleton.1 hz]; rfl) (by omega) (by omega) ?_; intro w2 q2 g2 z2)
  have b12 : Below w1.heap.size w1 w2 := (Below.refl _ _).grown g2 (Nat.le_refl _) (by simp)
  have H2 := H1.below b12
  have hr2 : Rd (fun b => ow1 b ≤ 1) w2 (⟨some ⟨w1.heap.size, 0, none⟩, 1, 1, [1]⟩ : Bs) := ⟨q2.ints (n := 1) (by simp), by show (1 : Nat) ≤ 1099511627776; omega, fun b off p e _ => by injection e with e; injection e with e; rw [← e, H1.sto.free (Nat.le_refl _)]; omega⟩
  refine (put_si H2 (k := [97]) (by decide) hr2 (by omega)).mono ?_
  rintro r3 w3 ⟨rfl, ow3, es3, H3, C3, L3⟩
  have hsh : shwP (absL es3) [97] = (true, [1]) := by rw [L3, shw_put, if_pos rfl]
  have HG := Lib.hid (get_si H3 (k := [97]) (by decide) (by omega))
  rw [hsh] at HG
  clear L3 hsh hr2
  go_wp2_with fail
  refine HG.out.mono ?_
  rintro r4 w4 ⟨y, rfl, hyz, hyo, hyr, b4⟩
  obtain ⟨A, n, c, zs⟩ := y
  obtain rfl : zs = [1] := hyz
  obtain rfl : n = 1 := hyr.len.symm
  clear hyo hyr
  go_wp2_with fail
  refine (writes_si (H3.below b4)).mono ?_
  rintro r5 w5 ⟨rfl, rfl⟩
  go_wp2_with fail
  go_ret
  have n2 : ∀ b, ow1 b ≠ 0 → w.heap.size ≤ b := n1
  have c1 := b1.trans (b12.mono b1.size)
  have c3 := chg_below C3 c1.size n1
  exact ⟨rfl, (c1.trans c3).trans (b4.mono (c1.trans c3).size)⟩
end Go.Proofs.Ytbippmbcgkicaaa.Sto
namespace Go.Proofs.Ytbippmbcgkicaaa.Sto
open Go.RowKit Go.Shelf Go.Proofs.Ytbippmbcgkicaaa Mem Held Sl Go.Proofs.Ytbippmbcgkicaaa.Range
attribute [local go_sem] Oper.semAt_some
attribute [local irreducible] wpList wpListIn Calls
def encE (x : Nm × Option Nat) : Array Value := #[encStr x.1, ptrV x.2]
def nxE (l : List (Nm × Option Nat)) (x : Nm × Option Nat) (l' : List (Nm × Option Nat)) : Prop := x ∈ l ∧ l' = l.filter fun p => !decide (p.1 = x.1)
def finE (l : List (Nm × Option Nat)) : Prop := l = []
section
variable {P : Program} {ρ : Operand → Value} {o : Oper} {w w' : World} {v p : Value}
end
set_option maxRecDepth 100000 in
set_option maxHeartbeats 4000000 in
theorem none_t (N : Nat) (w : World) : SeqT Fence.wide N Try.prog 53 #[] (fun _ => False) encE nxE finE [] w := by
  intro l J Jx W hW hJ hJx hY h00
  refine callsIn_of_wp Try.func53 rfl trivial ?_ rfl
  simp only [Try.ntmps53, List.size_toArray, List.length_cons, List.length_nil, Nat.reduceAdd, Nat.reduceSub, Array.replicate_succ, Array.replicate_zero, List.push_toArray, List.append_toArray, List.nil_append, List.cons_append]
  gi_wp2_with fail
  go_end0
  exact ⟨⟨_, rfl⟩, .inl ⟨_, [], rfl, h00⟩⟩
theorem all_nil (w : World) : Calls Try.prog 38 #[.pointer none] w fun r w' => r = .returned (.func (.func 53) #[] #[]) ∧ w = w' := by
  go_enter Try.func38, Try.ntmps38
  go_wp2_with fail
  go_ret
  exact ⟨rfl, rfl⟩
end Go.Proofs.Ytbippmbcgkicaaa.Sto
namespace Go.Proofs
open Go.Shelf Go.Sort Go.RowKit Go.Lib
def Try.lays190_ren : Go.Shelf.Ren := ⟨fun | 190 => 51 | 125 => 62 | 258 => 61 | 128 => 74 | 129 => 75 | 302 => 65 | 303 => 66 | 304 => 67 | 305 => 68 | 306 => 69 | 307 => 70 | 308 => 71 | 309 => 72 | 310 => 73 | 333 => 76 | 329 => 77 | 330 => 78 | 334 => 79 | 335 => 80 | 336 => 81 | 344 => 82 | n => n, fun | 31 => 46 | 9 => 9 | 3 => 3 | 46 => 54 | 0 => 0 | 51 => 107 | 53 => 109 | 4 => 4 | 183 => 101 | 182 => 100 | 131 => 74 | 5 => 5 | 218 => 110 | 222 => 114 | 228 => 116 | 229 => 117 | n => n, fun | n => n⟩
theorem Try.lays190 : Go.Proofs.Lays.n190 Try.prog Try.lays190_ren := {
  mixed := by kernel_rfl
  f125 := Try.func62.trans (congrArg some (by kernel_rfl))
  f128 := Try.func74.trans (congrArg some (by kernel_rfl))
  f129 := Try.func75.trans (congrArg some (by kernel_rfl))
  f190 := Try.func51.trans (congrArg some (by kernel_rfl))
  f258 := Try.func61.trans (congrArg some (by kernel_rfl))
  f302 := Try.func65.trans (congrArg some (by kernel_rfl))
  f303 := Try.func66.trans (congrArg some (by kernel_rfl))
  f304 := Try.func67.trans (congrArg some (by kernel_rfl))
  f305 := Try.func68.trans (congrArg some (by kernel_rfl))
  f306 := Try.func69.trans (congrArg some (by kernel_rfl))
  f307 := Try.func70.trans (congrArg some (by kernel_rfl))
  f308 := Try.func71.trans (congrArg some (by kernel_rfl))
  f309 := Try.func72.trans (congrArg some (by kernel_rfl))
  f310 := Try.func73.trans (congrArg some (by kernel_rfl))
  f329 := Try.func77.trans (congrArg some (by kernel_rfl))
  f330 := Try.func78.trans (congrArg some (by kernel_rfl))
  f333 := Try.func76.trans (congrArg some (by kernel_rfl))
  f334 := Try.func79.trans (congrArg some (by kernel_rfl))
  f335 := Try.func80.trans (congrArg some (by kernel_rfl))
  f336 := Try.func81.trans (congrArg some (by kernel_rfl))
  f344 := Try.func82.trans (congrArg some (by kernel_rfl))
  t0 := Try.underlying0
  a0 := Try.isAgg0
  z0 := Try.sizeOf0
  v0 := Try.zeroValue0
  t3 := Try.underlying3
  a3 := Try.isAgg3
  z3 := Try.sizeOf3
  v3 := Try.zeroValue3
  t4 := Try.underlying4
  a4 := Try.isAgg4
  z4 := Try.sizeOf4
  v4 := Try.zeroValue4
  t5 := Try.underlying5
  a5 := Try.isAgg5
  z5 := Try.sizeOf5
  v5 := Try.zeroValue5
  t9 := Try.underlying9
  a9 := Try.isAgg9
  z9 := Try.sizeOf9
  v9 := Try.zeroValue9
  t31 := Try.underlying46
  a31 := Try.isAgg46
  z31 := Try.sizeOf46
  v31 := Try.zeroValue46
  t46 := Try.underlying54
  a46 := Try.isAgg54
  z46 := Try.sizeOf54
  v46 := Try.zeroValue54
  t51 := Try.underlying107
  a51 := Try.isAgg107
  z51 := Try.sizeOf107
  v51 := Try.zeroValue107
  t53 := Try.underlying109
  a53 := Try.isAgg109
  z53 := Try.sizeOf109
  v53 := Try.zeroValue109
  t131 := Try.underlying74
  a131 := Try.isAgg74
  z131 := Try.sizeOf74
  v131 := Try.zeroValue74
  t182 := Try.underlying100
  a182 := Try.isAgg100
  z182 := Try.sizeOf100
  v182 := Try.zeroValue100
  t183 := Try.underlying101
  a183 := Try.isAgg101
  z183 := Try.sizeOf101
  v183 := Try.zeroValue101
  t218 := Try.underlying110
  a218 := Try.isAgg110
  z218 := Try.sizeOf110
  v218 := Try.zeroValue110
  t222 := Try.underlying114
  a222 := Try.isAgg114
  z222 := Try.sizeOf114
  v222 := Try.zeroValue114
  t228 := Try.underlying116
  a228 := Try.isAgg116
  z228 := Try.sizeOf116
  v228 := Try.zeroValue116
  t229 := Try.underlying117
  a229 := Try.isAgg117
  z229 := Try.sizeOf117
  v229 := Try.zeroValue117 }
theorem Try.slices_Sort_string_none (p : Option Addr) (cap : Nat) (w : World) :
    Calls Try.prog 51 #[.slice p 0 cap] w fun e w' => e = .returned (.tuple #[]) ∧ w' = w := Any.slices_Sort_string_none Try.lays190 p cap w
end Go.Proofs
namespace Go.Proofs.Ytbippmbcgkicaaa.Sto
open Go.RowKit Go.Shelf Go.Proofs.Ytbippmbcgkicaaa Mem Held Sl Go.Proofs.Ytbippmbcgkicaaa.Range
attribute [local go_sem] Oper.semAt_some
attribute [local irreducible] wpList wpListIn Calls
def LowI {β : Type} (w0 : World) (C : β → Prop) (pv : Nat → Prop) (s : β) (W : World) : Prop := C s ∧ KeepsP (fun r => r < w0.heap.size) w0 W ∧ ∀ r, pv r → w0.heap.size ≤ r
theorem stay_low {β : Type} (w0 : World) (C : β → Prop) : Stay (LowI (β := β) w0 C) where
  new pv pv' s W W' h hg h1 h2 := ⟨h.1, h.2.1.trans (KeepsP.of_grown hg (fun r e => by cases e)), fun r hr => (h2 r hr).elim (h.2.2 r) (fun h3 => Nat.le_trans h.2.1.size h3.1)⟩
  put pv s W W' r h hr hg := ⟨h.1, h.2.1.trans (KeepsP.of_grown hg (fun r' e h3 => by
    injection e with e
    subst e
    have := h.2.2 _ hr
    omega)), h.2.2⟩
theorem stay_no {β : Type} : Stay (fun (_ : Nat → Prop) (_ : β) (_ : World) => False) where
  new _ _ _ _ _ h _ _ _ := h
  put _ _ _ _ _ h _ _ := h
def SeqN (N g : Nat) (lb : Array Value) (Nd : Nat → Prop) (w : World) : Prop := SeqT Fence.wide N Try.prog g lb Nd (fun x : Nm => #[encStr x]) (fun (_ : Unit) _ _ => False) (fun _ => True) () w
set_option maxRecDepth 100000 in
set_option maxHeartbeats 4000000 in
theorem vals_nil (N bx : Nat) (w : World) (q : Blk w bx 46 #[.slice none 0 0]) : SeqN N 63 #[.pointer (some ⟨bx, 0, none⟩)] (fun r => r = bx) w := by
  intro l J Jx W hW hJ hJx hY h00
  have q := q.after hW
  have hc := q.cell (i := 0) rfl
  clear hY hW
  refine callsIn_of_wp Try.func63 rfl trivial ?_ rfl
  simp only [Try.ntmps63, List.size_toArray, List.length_cons, List.length_nil, Nat.reduceAdd, Nat.reduceSub, Array.replicate_succ, Array.replicate_zero, List.push_toArray, List.append_toArray, List.nil_append, List.cons_append]
  gi_wp2_with fail
  gi_loopw [7] (fun i wr => i = .int .i64 0 ∧ J (fun _ => False) () wr) (fun _ _ => 0)
  case atStart => exact ⟨rfl, h00⟩
  case round =>
    obtain ⟨rfl, hrel⟩ := hrel
    clear h00
    gi_wp2_with fail
    go_end0
    exact ⟨⟨_, rfl⟩, .inl ⟨_, (), trivial, hrel⟩⟩
set_option maxRecDepth 100000 in
set_option maxHeartbeats 4000000 in
theorem values_any (A : Option Addr) (n c : Nat) (w : World) : Calls Try.prog 52 #[.slice A n c] w fun r w' => ∃ bx, r = .returned (.func (.func 63) #[] #[.pointer (some ⟨bx, 0, none⟩)]) ∧ Blk w' bx 46 #[.slice A n c] ∧ w.heap.size ≤ bx ∧ Below w.heap.size w w' := by
  go_enter Try.func52, Try.ntmps52
  go_wp2_with (refine wpList_box_cell (w := w) rfl 46 _ rfl (.slice A n c) rfl rfl ?_; intro u1 q1 g1 z1)
  go_ret
  exact ⟨_, rfl, q1, Nat.le_refl _, (Below.refl _ w).grown g1 (Nat.le_refl _) (by simp)⟩
set_option maxRecDepth 100000 in
set_option maxHeartbeats 8000000 in
theorem names_nil (w : World) : Calls Try.prog 28 #[.pointer none] w fun r w' => ∃ bx, r = .returned (.func (.func 63) #[] #[.pointer (some ⟨bx, 0, none⟩)]) ∧ (∀ K, SeqN K 63 #[.pointer (some ⟨bx, 0, none⟩)] (fun r => r = bx) w') ∧ bx < w'.heap.size ∧ Below w.heap.size w w' := by
  refine (callsIn_wide (n := 4)).1 ?_
  refine callsIn_of_wp_marks Try.func28 rfl trivial ?_ rfl
  simp only [Try.ntmps28, List.size_toArray, List.length_cons, List.length_nil, Nat.reduceAdd, Nat.reduceSub, Array.replicate_succ, Array.replicate_zero, List.push_toArray, List.append_toArray, List.nil_append, List.cons_append]
  refine wpIn_wide.2 ?_
  go_wp2_with (refine wpList_alloc_cell (w := w) rfl 46 rfl (.slice none 0 0) (by kernel_rfl) rfl ?_; intro u1 q1 g1 z1)
  have b1 : Below w.heap.size w u1 := (Below.refl _ w).grown g1 (Nat.le_refl _) (by simp)
  have l1 : w.heap.size < u1.heap.size := (Array.getElem?_eq_some_iff.1 q1).1
  clear g1 z1
  refine (all_nil u1).mono ?_
  rintro e u2 ⟨rfl, rfl⟩
  go_wp2_with fail
  refine (wpIn_wide (n := 4)).1 ?_
  refine wpIn_rangeFunc_t rfl (by omega) (gf := 53) (lb := #[]) rfl trivial (enters_of Try.func53 (by kernel_rfl) rfl) (none_t _ u1) (Below.refl _ _) (fun _ => rfl) (fun r h => h.elim)
    (LowI u1 (fun l => l = [])) (fun _ _ _ _ => False) (stay_low _ _) (fun _ => stay_no) ⟨rfl, KeepsP.refl _ _, fun _ h => h.elim⟩ (fun _ _ _ _ _ _ => False) (fun _ _ _ _ _ _ _ _ h _ _ => h) ?assign ?body ?done ?stop
  case assign =>
    rintro l pv k x k' X C hl ⟨rfl, _⟩ hx hC
    cases hx.1
  case body =>
    intro l pv k x k' a' X hl hr h
    exact h.elim
  case done =>
    rintro D pv k X hk ⟨-, kp, hp⟩ hD hDl
    have b2 : Below w.heap.size w X := b1.trans ((KeepsP.below kp (Nat.le_refl _) (fun r h => h)).mono b1.size)
    have q2 := kp.block _ _ l1 q1
    have hc := cell_of_one q2
    have hd := hp D hD
    clear kp hp q1 b1
    go_wp2_with fail
    refine (Try.slices_Sort_string_none none 0 X).mono ?_
    rintro e u3 ⟨rfl, rfl⟩
    go_wp2_with fail
    refine (values_any none 0 0 u3).mono ?_
    rintro e u4 ⟨bx, rfl, qx, hbx, b4⟩
    have hDl4 := (b4.block D (Array.getElem?_eq_some_iff.1 hDl).1).trans hDl
    have hb := b2.trans (b4.mono b2.size)
    have hlx := qx.lt
    have hDn : D < u3.heap.size := (Array.getElem?_eq_some_iff.1 hDl).1
    clear hc
    go_wp2_with fail
    refine ⟨by simp, .inl ⟨_, _, rfl, run_takeDeferred hDl4, ?_⟩⟩
    exact ⟨_, results_tmp rfl _ _ _, bx, rfl, fun K => vals_nil K bx _ ((World.putObj_heap_other (by omega)).trans qx), by rw [World.putObj_size]; exact hlx, hb.grown (grownBy_putObj' _ D _) hb.size (fun r e => by cases e; omega)⟩
  case stop =>
    intro D c pv k X h
    exact h.elim
theorem results_two {P : Program} {fn : Func} {p q : Tmp} {t u : TypeId} (h : fn.results = #[.cell p t, .cell q u]) (tmps : Array Value) (w : World) (g g' : Nat) (v v' : Value) (hp : tmps.getD p undef = .pointer (some ⟨g, 0, none⟩)) (hq : tmps.getD q undef = .pointer (some ⟨g', 0, none⟩))
    (ht : plainT P t = true) (hu : plainT P u = true) (hc : w.cell? ⟨g, 0, none⟩ = some v) (hc' : w.cell? ⟨g', 0, none⟩ = some v') : (results fn tmps).run P w = .ok (.tuple #[v, v']) w := by
  have a1 : (asAddr (.pointer (some ⟨g, 0, none⟩))).run P w = .ok ⟨g, 0, none⟩ w := by simp [asAddr]
  have a2 : (asAddr (.pointer (some ⟨g', 0, none⟩))).run P w = .ok ⟨g', 0, none⟩ w := by simp [asAddr]
  have hp2 : tmps[p]?.getD undef = .pointer (some ⟨g, 0, none⟩) := by simpa using hp
  have hq2 : tmps[q]?.getD undef = .pointer (some ⟨g', 0, none⟩) := by simpa using hq
  simp only [results, h]
  simp [Sem.run_bind, Result.andThen, hp2, hq2, a1, a2, Held.run_loadVar_cell t _ w v ht hc, Held.run_loadVar_cell u _ w v' hu hc']
set_option maxRecDepth 100000 in
set_option maxHeartbeats 8000000 in
theorem seq_none (most : Int) (g : Nat) (lb : Array Value) (Nd : Nat → Prop) (w : World) (eg : ∀ args w, (callFunc g args).run Try.prog w = .ok (.enter g args) w) (hs : ∀ K, SeqN K g lb Nd w) (hN : ∀ r, Nd r → r < w.heap.size) :
    Calls Try.prog 27 #[.func (.func g) #[] lb, .int .i64 most] w fun r w' => r = .returned (.tuple #[.slice none 0 0, .bool true]) ∧ Below w.heap.size w w' := by
  have hfn := fun W => Held.run_func_nil (P := Try.prog) 50 Try.underlying50 (.func g) #[] lb W
  refine (callsIn_wide (n := 4)).1 ?_
  refine callsIn_of_wp_marks Try.func27 rfl trivial ?_ rfl
  simp only [Try.ntmps27, List.size_toArray, List.length_cons, List.length_nil, Nat.reduceAdd, Nat.reduceSub, Array.replicate_succ, Array.replicate_zero, List.push_toArray, List.append_toArray, List.nil_append, List.cons_append]
  refine wpIn_wide.2 ?_
  go_wp2_with (first
    | (refine wpList_box_cell (w := w) rfl 3 _ rfl (.int .i64 most) rfl rfl ?_; intro u1 q1 g1 z1)
    | (refine wpList_alloc_cell (w := u1) rfl 46 rfl (.slice none 0 0) (by kernel_rfl) rfl ?_; intro u2 q2 g2 z2)
    | (refine wpList_alloc_cell (w := u2) rfl 4 rfl (.bool false) (by kernel_rfl) rfl ?_; intro u3 q3 g3 z3; have q2 := Held.keep_cells q2 g3 (by simp))
    | (refine wpList_alloc_cell (w := u3) rfl 46 rfl (.slice none 0 0) (by kernel_rfl) rfl ?_; intro u4 q4 g4 z4; have q2 := Held.keep_cells q2 g4 (by simp); have q3 := Held.keep_cells q3 g4 (by simp)))
  have l1 : w.heap.size < u1.heap.size := (Array.getElem?_eq_some_iff.1 q1).1
  have b4 : Below w.heap.size w u4 := ((((Below.refl _ w).grown g1 (Nat.le_refl _) (by simp)).grown g2 g1.size (by simp)).grown g3 (Nat.le_trans g1.size g2.size) (by simp)).grown g4 (Nat.le_trans (Nat.le_trans g1.size g2.size) g3.size) (by simp)
  have s1 := g1.size
  have s2 : u1.heap.size < u2.heap.size := by have := z2.out; omega
  have s3 := g3.size
  have l2 : u1.heap.size < u4.heap.size := (Array.getElem?_eq_some_iff.1 q2).1
  have l3 : u2.heap.size < u4.heap.size := (Array.getElem?_eq_some_iff.1 q3).1
  have l4 : u3.heap.size < u4.heap.size := (Array.getElem?_eq_some_iff.1 q4).1
  clear g1 z1 g2 z2 g3 z3 g4 z4 q1
  refine (wpIn_wide (n := 4)).1 ?_
  refine wpIn_rangeFunc_t rfl (by omega) (gf := g) (lb := lb) rfl trivial eg (hs _) b4 (fun _ => rfl) (fun r h => Nat.lt_of_lt_of_le (hN r h) b4.size)
    (LowI u4 (fun _ => True)) (fun _ _ _ _ => False) (stay_low _ _) (fun _ => stay_no) ⟨trivial, KeepsP.refl _ _, fun _ h => h.elim⟩ (fun _ _ _ _ _ _ => False) (fun _ _ _ _ _ _ _ _ h _ _ => h) ?assign ?body ?done ?stop
  case assign =>
    intro l pv k x k' X C hl h hx
    exact hx.elim
  case body =>
    intro l pv k x k' a' X hl hr h
    exact h.elim
  case done =>
    rintro D pv k X hk ⟨-, kp, hp⟩ hD hDl
    have bX : Below w.heap.size w X := b4.trans ((KeepsP.below kp (Nat.le_refl _) (fun r h => h)).mono b4.size)
    have q2 := kp.block _ _ l2 q2
    have q3 := kp.block _ _ l3 q3
    have q4 := kp.block _ _ l4 q4
    have hc := cell_of_one q4
    have hd := hp D hD
    have hDn : D < X.heap.size := (Array.getElem?_eq_some_iff.1 hDl).1
    clear kp hp b4
    go_wp2_with (first
      | (refine wpList_store_box (w := X) rfl 46 _ _ rfl u1.heap.size rfl 46 _ (.slice none 0 0) rfl q2 (by kernel_rfl) rfl rfl ?_; intro v2 e2 f2; have q3 := Held.keep_cells q3 f2 (by simp; omega); have hDl := (f2.block D hDn (by simp; omega)).trans hDl)
      | (refine wpList_store_box (w := v2) rfl 4 _ _ rfl u2.heap.size rfl 4 _ (.bool true) rfl q3 (by kernel_rfl) rfl rfl ?_; intro v3 e3 f3; have e2 := Held.keep_cells e2 f3 (by simp; omega); have hDl := (f3.block D (Nat.lt_of_lt_of_le hDn f2.size) (by simp; omega)).trans hDl))
    have hb : Below w.heap.size w v3 := (bX.grown f2 bX.size (fun r e => by cases e; omega)).grown f3 (Nat.le_trans bX.size f2.size) (fun r e => by cases e; omega)
    refine ⟨by simp, .inl ⟨_, _, rfl, run_takeDeferred hDl, ?_⟩⟩
    exact ⟨_, results_two rfl _ _ u1.heap.size u2.heap.size _ _ rfl rfl (by kernel_rfl) (by kernel_rfl) (cell_of_one ((World.putObj_heap_other (by omega)).trans e2)) (cell_of_one ((World.putObj_heap_other (by omega)).trans e3)), rfl, hb.grown (grownBy_putObj' _ D _) hb.size (fun r e => by cases e; omega)⟩
  case stop =>
    intro D c pv k X h
    exact h.elim
set_option maxRecDepth 100000 in
set_option maxHeartbeats 4000000 in
theorem fork_nil (w : World) : Calls Try.prog 19 #[.pointer none] w fun r w' => r = .returned (.pointer none) ∧ w = w' := by
  go_enter Try.func19, Try.ntmps19
  go_wp2_with fail
  go_ret
  exact ⟨rfl, rfl⟩
set_option maxRecDepth 100000 in
set_option maxHeartbeats 4000000 in
theorem roll_nil (n : Int) (w : World) : Calls Try.prog 15 #[.pointer none, .int .i64 n] w fun r w' => r = .returned (.bool false) ∧ Below w.heap.size w w' := by
  have hd : (true || decide (n < 0)) = true := rfl
  go_enter Try.func15, Try.ntmps15
  go_wp2_with (first
    | (refine wpList_box_cell (w := w) rfl 23 _ rfl (.pointer none) rfl rfl ?_; intro u1 q1 g1 z1)
    | (refine wpList_box_cell (w := u1) rfl 3 _ rfl (.int .i64 n) rfl rfl ?_; intro u2 q2 g2 z2; have q1 := Held.keep_cells q1 g2 (by simp)))
  have b2 : Below w.heap.size w u2 := ((Below.refl _ w).grown g1 (Nat.le_refl _) (by simp)).grown g2 g1.size (by simp)
  have c1 := cell_of_one q1
  have c2 := cell_of_one q2
  clear g1 z1 g2 z2 q1 q2
  go_quiet (fail)
  go_wp2_with fail
  go_ret
  exact ⟨rfl, below_drewN b2 _⟩
end Go.Proofs.Ytbippmbcgkicaaa.Sto
