/-
  dominohelp.First of an iterator of blocks of 64 bytes: the function that it hands to the iterator, by its contract. Conditions: the blocks that come are 64 bytes long.
-/
import Derived.Test.YtejgnjnmlojdpaaDoorCh7
import Derived.Maps.AppendAt
namespace Go.Proofs.YtejgnjnmlojdpaaDoor.Cha
open Go.RowKit Go.Shelf Go.Proofs.YtejgnjnmlojdpaaDoor.Mem Go.Proofs.YtejgnjnmlojdpaaDoor.Help Go.Proofs.YtejgnjnmlojdpaaDoor.Sum Go.Proofs.YtejgnjnmlojdpaaDoor.Cc Go.Proofs.YtejgnjnmlojdpaaDoor.Sha Go.Proofs.YtejgnjnmlojdpaaDoor
set_option linter.unusedVariables false
attribute [local irreducible] wpList wpListIn

/-- a list of blocks, cell by cell -/
def cellsOf (zss : List (List Int)) : List Value := zss.flatMap fun zs => zs.map (Value.int .u8)
theorem cellsOf_snoc (zss : List (List Int)) (x : List Int) : cellsOf (zss ++ [x]) = cellsOf zss ++ x.map (Value.int .u8) := by simp [cellsOf]
/-- the call's own list of blocks -/
def OwnB (w : World) (base : Nat) (v : Value) (zss : List (List Int)) : Prop := w.ownsRow base 29 64 v zss.length (cellsOf zss)

theorem run_store_box' {P : Program} {w : World} (ty : TypeId) (g : Nat) (t : TypeId) (old v : Value) (hb : w.heap[g]? = some (.cells #[old] t (0, 0))) (hsz : (P.info? ty).map (·.size) = some 1) (h1 : v.cells = #[v]) (ho1 : v.oneCell' = true) :
    (storeVar ty ⟨g, 0, none⟩ v).run P w = .ok () (w.setCell ⟨g, 0, none⟩ v) := Held.run_store_box ty g t old v hb hsz h1 ho1
theorem wpList_store_box {P : Program} {ops : Array Oper} {rest : List Oper} {o : Oper} {a : Act} {w : World} {Q : Exit → Act → World → Prop} (hw : Region.wanted o (yielded ops a.tmps) = true) (ty : TypeId) (x y : Operand) (ho : o.op = .store ty x y) (g : Nat) (hx : a.eval x = .pointer (some ⟨g, 0, none⟩)) (t : TypeId) (old v : Value) (hy : a.eval y = v)
    (hb : w.heap[g]? = some (.cells #[old] t (0, 0))) (hsz : (P.info? ty).map (·.size) = some 1) (h1 : v.cells = #[v]) (ho1 : v.oneCell' = true)
    (h : ∀ w', w'.heap[g]? = some (.cells #[v] t (0, 0)) → w.grownBy w' (some g) → wpList P ops Q rest (a.put o.dst undef) w') : wpList P ops Q (o :: rest) a w :=
  wpList_step fun _ hK => by
    rw [if_pos hw]
    unfold Oper.wp execOp
    simp only [ho, hx, hy, Instr.storeAt, Instr.sureAddr, Sem.run_bind, Sem.run_pure, Result.andThen_ok, Held.run_store_box ty g t old v hb hsz h1 ho1]
    exact hK _ _ (h _ (one_setCell hb) (grown_setCell _ _ _ _))
theorem info_b64 : (Tryd.prog.info? 29).map (fun i => (i.size, i.bytes)) = some (64, 64) := by kernel_rfl
/-- one block as a list of its own, the new world a letter -/
theorem wpList_build_block {ops : Array Oper} {rest : List Oper} {o : Oper} {a : Act} {w : World} {Q : Exit → Act → World → Prop} (hgd : o.guard = none) (y : Operand) (ho : o.op = .buildSlice 35 1 #[(0, y)]) (x : List Int) (hx : x.length = 64) (hwf : ∀ z ∈ x, (Lit.int .u8 z).wf = true) (hy : a.eval y = .agg (arr .u8 x))
    (h : ∀ w', Row w' w.heap.size 29 .u8 x → w.grownBy w' none → Hid (w'.heap.size = w.heap.size + 1) → wpList Tryd.prog ops Q rest (a.put o.dst (.slice (some ⟨w.heap.size, 0, none⟩) 1 1)) w') : wpList Tryd.prog ops Q (o :: rest) a w := by
  obtain ⟨ie, hie, hsb⟩ := Option.map_eq_some_iff.1 info_b64
  simp only [Prod.mk.injEq] at hsb
  have hz : ie.zero = some (.agg (arr .u8 (List.replicate 64 0))) := by
    have := zero_64
    rw [hie] at this
    exact this
  refine Go.wpList_buildSlice hgd 35 29 1 #[(0, y)] ho (arr .u8 x) ie _ Tryd.underlying35 hie hz (by rw [hsb.1]; omega) (by rw [hsb.1]; omega) ?_ (h _ (Row.new w _ hwf) (World.grownBy_alloc w _ none) (Lib.hid (by simp)))
  have hf := Great.fill_whole (s := 64) (by omega) [.agg (arr .u8 x)] ((Array.range (1 * ie.size)).map ((Value.agg (arr .u8 (List.replicate 64 0))).cells[· % (Value.agg (arr .u8 (List.replicate 64 0))).cells.size]!)) (by simp [Value.cells, arr, hx]) (by simp [hsb.1])
  rw [hsb.1] at hf ⊢
  simp only [List.map_toArray, List.map_cons, List.map_nil, hy]
  refine Eq.trans ?_ (hf.trans ?_)
  · rfl
  · simp [Value.cells, arr]

theorem row_form {w : World} {base : Nat} {e : TypeId} {s n : Nat} {v : Value} {xs : List Value} (h : w.ownsRow base e s v n xs) : ∃ A c, v = .slice A n c ∧ n ≤ c ∧ c ≤ maxLen := by
  rcases h.2 with ⟨rfl, hn⟩ | ⟨g, cap, cur, rfl, _, _, h1, h2, _⟩
  · exact ⟨none, 0, by rw [hn], by omega, by simp [maxLen]⟩
  · exact ⟨_, cap, rfl, h1, h2⟩
theorem ownB_form {w : World} {base : Nat} {v : Value} {zss : List (List Int)} (h : OwnB w base v zss) : ∃ A c, v = .slice A zss.length c ∧ zss.length ≤ c ∧ c ≤ maxLen := by
  rcases h.2 with ⟨rfl, hn⟩ | ⟨g, cap, cur, rfl, _, _, h1, h2, _⟩
  · exact ⟨none, 0, by rw [hn], by omega, by simp [maxLen]⟩
  · exact ⟨_, cap, rfl, h1, h2⟩
/-- what First has of its own: the list so far, at block ga; how many are asked for, at block gn -/
def Has (ga gn n : Nat) (zss : List (List Int)) (w : World) : Prop :=
  ∃ v, w.heap[ga]? = some (.cells #[v] 35 (0, 0)) ∧ OwnB w (ga + 1) v zss ∧ w.heap[gn]? = some (.cells #[.int .i64 (n : Int)] 3 (0, 0))

set_option maxRecDepth 100000 in
set_option maxHeartbeats 2000000 in
theorem told_any (ga gn n : Nat) (zss : List (List Int)) (x : List Int) (w : World) (hx : x.length = 64) (hwf : ∀ z ∈ x, (Lit.int .u8 z).wf = true) (h : Has ga gn n zss w) (hg : gn < ga) (hn : zss.length ≤ 1000000) :
    Calls Tryd.prog 28 #[.agg (arr .u8 x), .pointer (some ⟨ga, 0, none⟩), .pointer (some ⟨gn, 0, none⟩)] w fun e w' => e = .returned (.bool (decide (((zss.length + 1 : Nat) : Int) < (n : Int)))) ∧ Has ga gn n (zss ++ [x]) w' ∧ Below ga w w' := by
  obtain ⟨ie, hie, hsb⟩ := Option.map_eq_some_iff.1 info_b64
  simp only [Prod.mk.injEq] at hsb
  have hz : ie.zero = some (.agg (arr .u8 (List.replicate 64 0))) := by
    have := zero_64
    rw [hie] at this
    exact this
  have HX := Lib.hid hx
  clear hx
  obtain ⟨v, h1, hown, h3⟩ := h
  obtain ⟨A, c, rfl, hc1, hc2⟩ := ownB_form hown
  have ga_lt : ga < w.heap.size := (Array.getElem?_eq_some_iff.1 h1).1
  obtain ⟨k, hk⟩ : ∃ k, zss.length = k := ⟨_, rfl⟩
  have HK := Lib.hid hk
  unfold OwnB at hown
  rw [hk] at h1 hown hc1 hn ⊢
  clear hk
  go_enter Tryd.func28, Tryd.ntmps28
  go_wp2_with (first
    | (refine wpList_box_Row (w := w) rfl 29 _ rfl .u8 x rfl hwf ?_; intro w1 r1 g1 z1; have h11 := Held.keep_cells h1 g1 (by simp); have h31 := Held.keep_cells h3 g1 (by simp); have c11 := cell_of_one h11)
    | (refine wpList_load_Row (w := w1) rfl 29 _ rfl w.heap.size rfl 29 .u8 _ r1 64 5 Tryd.underlying29 info_64 HX.out ?_)
    | (refine wpList_build_block (w := w1) rfl _ rfl x HX.out hwf rfl ?_; intro w2 r2 g2 z2; have o2 := (hown.kept g1 (by cases (Value.slice A k c).ownBlock <;> simp)).kept g2 (by cases (Value.slice A k c).ownBlock <;> simp); have h12 := Held.keep_cells h11 g2 (by simp); have h32 := Held.keep_cells h31 g2 (by simp))
    | (at_builtin; refine wpList_append_own_at w2 rfl _ _ 35 rfl (ga + 1) 29 ie _ 64 64 Tryd.underlying35 hie hz hsb.1 hsb.2 (by simp [Value.cells, arr]) (by omega) (.slice A k c) k (cellsOf zss) rfl o2 ⟨w1.heap.size, 0, none⟩ 1 1 (x.map (Value.int .u8)) rfl (by simp [HX.out]) (fun j u hu => by have := r2.cell (i := j) (by have := (List.getElem?_eq_some_iff.1 hu).1; simpa using this); rw [show (Addr.mk w1.heap.size 0 none).add j = ⟨w1.heap.size, j, none⟩ by (unfold Addr.add; split <;> simp_all), this, ← hu]; have hj := (List.getElem?_eq_some_iff.1 hu).1; simp at hj; simp [List.getD_eq_getElem?_getD, hj]) (by intro u hu; obtain ⟨z, _, rfl⟩ := List.mem_map.1 hu; rfl) (by unfold maxLen; omega) (by omega) (by have := g1.size; have := g2.size; omega) ?_; intro v3 w3 o3 g3 hnil3 hat3; clear hnil3 hat3; obtain ⟨A3, c3, rfl, hc31, hc32⟩ := row_form o3; have nga : some ga ≠ (Value.slice A k c).ownBlock := (fun e => by have := (o2.lt ga e.symm).1; omega); have ngn : some gn ≠ (Value.slice A k c).ownBlock := (fun e => by have := (o2.lt gn e.symm).1; omega); have h13 := Held.keep_cells h12 g3 nga; have h33 := Held.keep_cells h32 g3 ngn)
    | (refine wpList_store_box (w := w3) rfl 35 _ _ rfl ga rfl 35 _ (.slice A3 (k + 1) c3) rfl h13 (by kernel_rfl) rfl rfl ?_; intro w4 h14 g4; have h34 := Held.keep_cells h33 g4 (by intro e; injection e with e; omega); have c14 := cell_of_one h14; have c34 := cell_of_one h34))
  go_ret
  have s1 := g1.size
  have s2 := g2.size
  have s3 := g3.size
  have bB : Below ga w w4 := ((((Below.refl _ w).grown g1 (by omega) (by simp)).grown g2 (by omega) (by simp)).grown g3 (by omega) (fun r e => by have := (o2.lt r e).1; omega)).grown g4 (by omega) (fun r e => by cases e; omega)
  refine ⟨by simp, ⟨_, h14, ?_, h34⟩, bB⟩
  unfold OwnB
  rw [cellsOf_snoc, List.length_append, HK.out]
  exact o3.kept g4 (.inr (fun e => by have := (o3.lt ga e).1; omega))

/-- the first k blocks from a counter on -/
def blocksUpto (key nonce : List Int) (ctr : Int) (k : Nat) : List (List Int) := (List.range k).map fun (i : Nat) => Cc.block key (addI ctr ((i : Nat) : Int)) nonce
theorem blocksUpto_succ (key nonce : List Int) (ctr : Int) (k : Nat) : blocksUpto key nonce ctr (k + 1) = blocksUpto key nonce ctr k ++ [Cc.block key (addI ctr (k : Int)) nonce] := by simp [blocksUpto, List.range_succ]
theorem blocksUpto_length (key nonce : List Int) (ctr : Int) (k : Nat) : (blocksUpto key nonce ctr k).length = k := by simp [blocksUpto]

set_option maxRecDepth 100000 in
set_option maxHeartbeats 4000000 in
theorem blocks_first (xk xn xc ga gn n : Nat) (key nonce : List Int) (ctr : Int) (w : World) (h1 : Row w xk 22 .u8 key) (h2 : Row w xn 24 .u8 nonce) (h3 : w.cell? ⟨xc, 0, none⟩ = some (.int .u32 ctr)) (lk : xk < ga) (ln : xn < ga) (lc : xc < ga) (lg : gn < ga)
    (hk : key.length = 32) (hkb : Bs key) (hn : nonce.length = 12) (hnb : Bs nonce) (hc : R32 ctr) (hT : Tab w 0 sigma) (hT0 : 0 < ga) (hh : Has ga gn n [] w) (n1 : 1 ≤ n) (n2 : n ≤ 1000) :
    Calls Tryd.prog 27 #[.func (.func 28) #[] #[.pointer (some ⟨ga, 0, none⟩), .pointer (some ⟨gn, 0, none⟩)], .pointer (some ⟨xc, 0, none⟩), .pointer (some ⟨xk, 0, none⟩), .pointer (some ⟨xn, 0, none⟩)] w fun e w' =>
      (∃ v, e = .returned v) ∧ Has ga gn n (blocksUpto key nonce ctr n) w' ∧ Below ga w w' := by
  have HK := Lib.hid hk
  have HN := Lib.hid hn
  have HC := Lib.hid hc
  have HBS := Lib.hid (fun k => blocksUpto_succ key nonce ctr k)
  have HBL := Lib.hid (fun k => blocksUpto_length key nonce ctr k)
  have H0 := Lib.hid (show ctr = addI ctr ((0 : Nat) : Int) by unfold R32 at hc; unfold addI; omega)
  clear hk hn
  go_enter Tryd.func27, Tryd.ntmps27
  go_wp2_with fail
  go_loopw [5] (fun v wr => ∃ k : Nat, k < n ∧ v = .int .u32 (addI ctr (k : Int)) ∧ Has ga gn n (blocksUpto key nonce ctr k) wr ∧ Below ga w wr) (fun v _ => n - ((intOf v - ctr) % 4294967296).toNat)
  case atStart => exact ⟨0, by omega, by rw [← H0.out], hh, Below.refl _ _⟩
  case round =>
    obtain ⟨k, hlt, rfl, hH, hbl⟩ := hrel
    have q1 := h1.below hbl lk
    have q2 := h2.below hbl ln
    have t1 := hT.below hbl hT0
    have hga : ga < wr.heap.size := by obtain ⟨v, hv, _⟩ := hH; exact (Array.getElem?_eq_some_iff.1 hv).1
    go_wp2_with (first
      | (refine wpList_load_Row (w := wr) rfl 22 _ rfl xk rfl 22 .u8 _ q1 32 5 Tryd.underlying22 info_k32 HK.out ?_)
      | (refine wpList_load_Row (w := wr) rfl 24 _ rfl xn rfl 24 .u8 _ q2 12 5 Tryd.underlying24 info_n12 HN.out ?_))
    refine (block_any key nonce (addI ctr (k : Int)) wr HK.out hkb HN.out hnb (r32_add _ _) t1).mono ?_
    rintro e w3 ⟨rfl, b3⟩
    have hH3 : Has ga gn n (blocksUpto key nonce ctr k) w3 := by
      obtain ⟨v, hv, ho, hg⟩ := hH
      exact ⟨v, (b3.block _ (Array.getElem?_eq_some_iff.1 hv).1).trans hv, ho.kept (grown_of_below b3 none) (by cases v.ownBlock <;> simp), (b3.block _ (Array.getElem?_eq_some_iff.1 hg).1).trans hg⟩
    have hb3 := hbl.trans (b3.mono (Nat.le_of_lt hga))
    clear b3 hH q1 q2 t1 hbl hga
    go_wp2_with fail
    refine (told_any ga gn n (blocksUpto key nonce ctr k) (Cc.block key (addI ctr (k : Int)) nonce) w3 (block_length _ _ _) (bs_wf (block_bytes _ _ _)) hH3 lg (by rw [HBL.out]; omega)).mono ?_
    rintro e w4 ⟨rfl, hH4, b4⟩
    rw [← HBS.out] at hH4
    rw [HBL.out]
    have hb4 := hb3.trans b4
    clear b4 hb3 hH3
    by_cases hlast : k + 1 < n
    · have t1 : decide (((k + 1 : Nat) : Int) < (n : Int)) = true := by simp; omega
      rw [t1]
      have hw5 : (addI ctr (k : Int) + 1) % 4294967296 = addI ctr ((k + 1 : Nat) : Int) := addI_succ ctr k
      go_wp2_with fail
      go_roundw
      case rel => exact ⟨k + 1, hlast, by rw [hw5], hH4, hb4⟩
      case measure =>
        have := HC.out
        unfold R32 at this
        simp only [intOf]
        unfold addI
        omega
    · have t1 : decide (((k + 1 : Nat) : Int) < (n : Int)) = false := by simp; omega
      rw [t1]
      obtain rfl : n = k + 1 := by omega
      go_wp2_with fail
      go_end0
      exact ⟨⟨_, rfl⟩, hH4, hb4⟩

theorem run_equalIn_func {P : Program} (d : Nat) (t : TypeId) {ps rs : Array TypeId} {v : Bool} (ht : P.underlying t = some (.func ps rs v)) (f : Fn) (xs ys : Array Value) (w : World) : (Op.equalIn (d + 1) t (.func f xs ys) .nilFunc).run P w = .ok false w := by
  simp [Op.equalIn, run_underlying ht]
theorem run_func_nil {P : Program} (t : TypeId) {ps rs : Array TypeId} {v : Bool} (ht : P.underlying t = some (.func ps rs v)) (f : Fn) (xs ys : Array Value) (w : World) : (binOp .eql t (.func f xs ys) .nilFunc).run P w = .ok (.bool false) w := by
  have h : (Op.equal t (.func f xs ys) .nilFunc).run P w = .ok false w := run_equalIn_func 9999 t ht f xs ys w
  simp only [binOp]
  simp [h]
/-- a new variable of one cell, the new world a letter -/
theorem wpList_alloc_cell {P : Program} {ops : Array Oper} {rest : List Oper} {o : Oper} {a : Act} {w : World} {Q : Exit → Act → World → Prop} (hw : Region.wanted o (yielded ops a.tmps) = true) (ty : TypeId) (ho : o.op = .alloc ty) (z : Value) (hz : (P.info? ty).bind (·.zero) = some z) (h1 : z.cells = #[z])
    (h : ∀ w', w'.heap[w.heap.size]? = some (.cells #[z] ty (0, 0)) → w.grownBy w' none → Hid (w'.heap.size = w.heap.size + 1) → wpList P ops Q rest (a.put o.dst (.pointer (some ⟨w.heap.size, 0, none⟩))) w') : wpList P ops Q (o :: rest) a w :=
  wpList_step fun _ hK => by
    rw [if_pos hw]
    unfold Oper.wp execOp
    simp only [ho, Held.run_alloc_one ty z hz h1, Sem.run_bind, Sem.run_pure, Result.andThen_ok]
    exact hK _ _ (h _ (heap_alloc_new w _) (World.grownBy_alloc w _ none) (Lib.hid (by simp)))
theorem first_any (xk xn xc n : Nat) (key nonce : List Int) (ctr : Int) (w : World) (h1 : Row w xk 22 .u8 key) (h2 : Row w xn 24 .u8 nonce) (h3 : w.cell? ⟨xc, 0, none⟩ = some (.int .u32 ctr))
    (hk : key.length = 32) (hkb : Bs key) (hn : nonce.length = 12) (hnb : Bs nonce) (hc : R32 ctr) (hT : Tab w 0 sigma) (n1 : 1 ≤ n) (n2 : n ≤ 1000) :
    Calls Tryd.prog 13 #[.func (.func 27) #[] #[.pointer (some ⟨xc, 0, none⟩), .pointer (some ⟨xk, 0, none⟩), .pointer (some ⟨xn, 0, none⟩)], .int .i64 (n : Int)] w fun e w' =>
      ∃ A c, e = .returned (.slice A n c) ∧ OwnB w' w.heap.size (.slice A n c) (blocksUpto key nonce ctr n) ∧ Below w.heap.size w w' := by
  have lc : xc < w.heap.size := by have := World.block_lt_of_cell? w _ h3; simpa using this
  have hn0 : ¬ (n : Int) < 1 := by omega
  have hfn := fun W => run_func_nil (P := Tryd.prog) 33 Tryd.underlying33 (.func 27) #[] #[.pointer (some ⟨xc, 0, none⟩), .pointer (some ⟨xk, 0, none⟩), .pointer (some ⟨xn, 0, none⟩)] W
  go_enter Tryd.func13, Tryd.ntmps13
  go_wp2_with (first
    | (refine Held.wpList_box_cell (w := w) rfl 3 _ rfl (.int .i64 (n : Int)) rfl rfl ?_; intro w1 h11 g1 z1)
    | (refine wpList_alloc_cell (w := w1) rfl 35 rfl (.slice none 0 0) (by kernel_rfl) rfl ?_; intro w2 h22 g2 z2; have h12 := Held.keep_cells h11 g2 (by simp); have c12 := cell_of_one h12))
  have l1 : w.heap.size < w1.heap.size := (Array.getElem?_eq_some_iff.1 h11).1
  obtain ⟨ga, hga⟩ : ∃ g, w1.heap.size = g := ⟨_, rfl⟩
  rw [hga] at l1 h22 ⊢
  have hH : Has ga w.heap.size n [] w2 := ⟨_, h22, World.ownsRow_nil _ _ _ _, h12⟩
  have b2 : Below w.heap.size w w2 := ((Below.refl _ w).grown g1 (Nat.le_refl _) (by simp)).grown g2 g1.size (by simp)
  clear g1 g2 z1 z2 h11 h12 c12 h22 hga
  refine (blocks_first xk xn xc ga w.heap.size n key nonce ctr w2 (h1.below b2 h1.lt) (h2.below b2 h2.lt) ((b2.cell (p := ⟨xc, 0, none⟩) lc).trans h3) (by have := h1.lt; omega) (by have := h2.lt; omega) (by omega) l1 hk hkb hn hnb hc (hT.below b2 hT.lt) (by have := hT.lt; omega) hH n1 n2).mono ?_
  rintro e w3 ⟨⟨v, rfl⟩, ⟨u, h33, o3, _⟩, b3⟩
  have B3 := b2.trans (b3.mono (Nat.le_of_lt l1))
  obtain ⟨A, c, rfl, _, _⟩ := ownB_form o3
  rw [blocksUpto_length] at h33 o3
  have c33 := cell_of_one h33
  go_wp2_with fail
  go_ret
  exact ⟨A, c, rfl, ⟨o3.1, by
    rcases o3.2 with h | ⟨g, cap, cur, hv, hb, hr⟩
    · exact .inl h
    · exact .inr ⟨g, cap, cur, hv, by omega, hr⟩⟩, B3⟩
end Go.Proofs.YtejgnjnmlojdpaaDoor.Cha

