/-
  Package pipe's round by its contract: the blocks behind a round of their network, in a new list of new blocks.
  Package pipe's iterator over the blocks behind no round, one, and so on, of their network, by its contract.
-/
import Derived.Test.YtlinmcgmkpkpaaaDoorB13
import Derived.Test.YtlinmcgmkpkpaaaDoorB9
import Derived.Test.YtlinmcgmkpkpaaaDoorB15
set_option linter.unusedVariables false
namespace Go.Proofs.YtlinmcgmkpkpaaaDoor.Pi
open Go.RowKit Go.Shelf Mem Held Go.Proofs.YtlinmcgmkpkpaaaDoor.Range Ct Rc Rs Sl Vm Mg
attribute [local go_sem] Oper.semAt_some
attribute [local irreducible] wpList wpListIn Calls
section
variable {ops : Array Oper} {rest : List Oper} {o : Oper} {a : Act} {w : World} {Q : Exit → Act → World → Prop}
theorem wpList_make_slots (hg : o.guard = none) (l c : Operand) (hop : o.op = Op.makeSlice 45 l c) (base : Nat)
    (kl kc : IntKind) (n : Nat) (hl : a.eval l = .int kl (n : Int)) (hc : a.eval c = .int kc (n : Int)) (hm : n ≤ 1048576) (hbase : base ≤ w.heap.size)
    (h : ∀ w', OwnL kS 48 w' base (.slice (some ⟨w.heap.size, 0, none⟩) n n) (List.replicate n kS.d) → w.grownBy w' none → wpList Tryd.prog ops Q rest (a.put o.dst (.slice (some ⟨w.heap.size, 0, none⟩) n n)) w') : wpList Tryd.prog ops Q (o :: rest) a w := by
  obtain ⟨ie, hie, hz0, hsz, hb⟩ := info_parts info_kS
  refine wpList_make_full w hg l c 45 hop base 48 ie _ kS.s Tryd.underlying45 hie hz0 hsz kl kc _ _ n hl hc rfl rfl (by rw [hb]; omega) (by unfold maxLen; omega) hbase ?_
  intro w' h1 h2
  have hcs : (Value.slice none 0 0).cells = (kS.cells kS.d).toArray := rfl
  rw [hcs, made_flat] at h1
  refine h w' ?_ h2
  unfold OwnL
  rw [List.length_replicate]
  exact h1
theorem op_store_slot (i : Nat) (dd : Option Tmp) {K : Act → World → Prop} {x y : Operand} (base g n cap j : Nat) (vs : List (Option Addr × Nat × Nat)) (p : Option Addr × Nat × Nat) (hi : ops[i]? = some o) (hd : o.dst = dd) (hw : Region.wanted o (yielded ops a.tmps) = true)
    (ho : o.op = .store 48 x y) (hx : a.eval x = .pointer (some ⟨g, j, none⟩)) (hy : a.eval y = slV p) (hown : OwnL kS 48 w base (.slice (some ⟨g, 0, none⟩) n cap) vs) (hj : j < vs.length)
    (h : ∀ w', OwnL kS 48 w' base (.slice (some ⟨g, 0, none⟩) n cap) (vs.set j p) → w.grownBy w' (some g) → K (a.put dd undef) w') : wpOp Tryd.prog ops Q i K a w := by
  have hsz : (Tryd.prog.info? 48).map (·.size) = some 1 := by kernel_rfl
  obtain ⟨⟨u, h1⟩, h2, h3⟩ := slot_set hown hj p
  subst hd
  refine op_wp i hi hw ?_
  unfold Oper.wp execOp
  simp only [ho, hx, hy, Instr.storeAt, Instr.sureAddr, Sem.run_bind, Sem.run_pure, Result.andThen_ok, run_store_elem 48 g _ u (slV p) h1 h2 hsz rfl rfl]
  exact h _ h3 (grown_setCell _ _ _ _)
end
theorem none_yet (W : World) (base n : Nat) : Tb W base (List.replicate n kS.d) (List.replicate n []) := ⟨by simp, fun i hi => by
  rw [List.getD_eq_getElem?_getD, List.getD_eq_getElem?_getD, List.getElem?_replicate, List.getElem?_replicate]
  simp only [List.length_replicate] at hi
  rw [if_pos hi, if_pos hi]
  exact OwnL.nil _ _ _ _⟩
theorem blk_ne {W : World} {g r : Nat} {t : TypeId} {cs : Array Value} (h : Blk W g t cs) {o : Obj} (ho : W.heap[r]? = some o) (hc : o.isCells = false) : some g ≠ some r := fun e => by
  injection e with e
  subst e
  have h : W.heap[g]? = some (.cells cs t (0, 0)) := h
  rw [h] at ho
  injection ho with ho
  subst ho
  cases hc
theorem upV_is {M s t a : Nat} (hM : a < M) (hb : a / 2 ^ (t - 1) % 2 = 0) : Bi.upV (M : Int) s t true (a : Int) = Net.ups s a := by
  have e1 : ((a : Int) / 2 ^ (t - 1)) % 2 = ((a / 2 ^ (t - 1) % 2 : Nat) : Int) := by rw [Bi.two_nat, ← Int.natCast_ediv]; omega
  have e2 : ((a : Int) / 2 ^ s) % 2 = ((a / 2 ^ s % 2 : Nat) : Int) := by rw [Bi.two_nat, ← Int.natCast_ediv]; omega
  unfold Bi.upV Net.ups
  rw [e1, e2, hb]
  have h1 : decide ((0 : Int) ≤ (a : Int)) = true := by simp
  have h2 : decide ((a : Int) < (M : Int)) = true := by simp; omega
  rw [h1, h2]
  by_cases h : a / 2 ^ s % 2 = 0
  · rw [h]; rfl
  · have h3 : decide (((a / 2 ^ s % 2 : Nat) : Int) = 0) = false := by simp; omega
    rw [h3]
    simp [h]
structure NR (w : World) (b3 b4 b5 b7 g M : Nat) (V : Value) (r : Int) (seq : Bool) (vs : List (Option Addr × Nat × Nat)) (ds : List (List R)) (W : World) : Prop where
  own : OwnL kS 48 W w.heap.size (.slice (some ⟨g, 0, none⟩) M M) vs
  len : Hid (vs.length = M)
  tb : Tb W w.heap.size vs ds
  src : Blk W b3 45 #[V]
  rnd : Blk W b4 3 #[.int .i64 r]
  sq : Blk W b5 4 #[.bool seq]
  dst : Blk W b7 45 #[.slice (some ⟨g, 0, none⟩) M M]
  below : Below w.heap.size w W
section
variable {w : World} {b3 b4 b5 b7 g M : Nat} {V : Value} {r : Int} {seq : Bool} {vs : List (Option Addr × Nat × Nat)} {ds : List (List R)} {W W' : World}
theorem NR.far (h : NR w b3 b4 b5 b7 g M V r seq vs ds W) {row : Option Nat} (hg : W.grownBy W' row) (hr : ∀ r, row = some r → w.heap.size ≤ r ∧ NoL TL W r) (h3 : some b3 ≠ row) (h4 : some b4 ≠ row) (h5 : some b5 ≠ row) (h7 : some b7 ≠ row) : NR w b3 b4 b5 b7 g M V r seq vs ds W' :=
  ⟨own_far h.own (.inl rfl) hg (fun r e => (hr r e).2), h.len, ⟨h.tb.1, fun i hi => own_far (h.tb.2 i hi) (.inr rfl) hg (fun r e => (hr r e).2)⟩, h.src.grown hg h3, h.rnd.grown hg h4, h.sq.grown hg h5, h.dst.grown hg h7, h.below.grown hg h.below.size (fun r e => (hr r e).1)⟩
theorem NR.after (h : NR w b3 b4 b5 b7 g M V r seq vs ds W) (hb : Below W.heap.size W W') : NR w b3 b4 b5 b7 g M V r seq vs ds W' :=
  h.far (grown_of_below hb none) (fun r e => by cases e) (by simp) (by simp) (by simp) (by simp)
theorem NR.off (h : NR w b3 b4 b5 b7 g M V r seq vs ds W) {B : Nat} (hB : w.heap.size ≤ B) {row : Option Nat} (hg : W.grownBy W' row) (hr : ∀ r, row = some r → B ≤ r ∧ ∃ o : Obj, W.heap[r]? = some o ∧ o.isCells = false) : NR w b3 b4 b5 b7 g M V r seq vs ds W' := by
  have ne : ∀ {b : Nat} {t : TypeId} {cs : Array Value}, Blk W b t cs → some b ≠ row := fun hb e => by
    obtain ⟨_, o, ho, hc⟩ := hr _ e.symm
    exact blk_ne hb ho hc rfl
  exact h.far hg (fun r e => by obtain ⟨h1, o, ho, hc⟩ := hr r e; exact ⟨by omega, nol_off ho hc⟩) (ne h.src) (ne h.rnd) (ne h.sq) (ne h.dst)
end
set_option maxRecDepth 100000 in
set_option maxHeartbeats 8000000 in
theorem round_ok (Bs r S z : Nat) (A : Option Addr) (n c : Nat) (bs : List (List R)) (seq : Bool) (w : World) (hG : Grid w Bs (.slice A n c) bs) (hl : bs.length = 2 ^ S) (hS : S ≤ 5) (hz : ∀ x ∈ bs, x.length = z) (hz8 : z ≤ 8) (hwf : Wf bs) (hr : r < Bi.tri S) (hT : Bi.TzT w) :
    Calls Tryd.prog 53 #[.slice A n c, .int .i64 (r : Int), .bool seq] w fun e w' => ∃ V, e = .returned V ∧ Grid w' w.heap.size V (roundB seq (2 ^ S) bs (stp r)) ∧ Below w.heap.size w w' := by
  obtain ⟨vs0, o0, t0⟩ := hG
  obtain ⟨A', n', c', e1, hn', _⟩ := OwnL.form2 o0
  injection e1 with e1 e2 e3
  subst e1
  subst e2
  subst e3
  have hS16 : S ≤ 16 := by omega
  have hr136 : r < 136 := Nat.lt_of_lt_of_le hr (Bi.tri_le hS16)
  obtain ⟨k1, k2, k3, k4⟩ := stp_is hr
  have HIN := Lib.hid (fun (dst : List (List R)) (hd : dst.length = 2 ^ S) => into_is (seq := seq) (st := stp r) k1 (Nat.le_trans k2 k3) hl hd)
  have hst := stp_is hr
  generalize hsp : stp r = st at *
  obtain ⟨s, t⟩ := st
  dsimp only at k1 k2 k3 k4 hst HIN
  have hMl : vs0.length = 2 ^ S := by rw [t0.1, hl]
  have hlen := hn'.out
  obtain ⟨M, hM⟩ : ∃ M, 2 ^ S = M := ⟨_, rfl⟩
  have hM32 : M ≤ 32 := by rw [← hM]; exact Nat.pow_le_pow_right (n := 2) (i := S) (by omega) hS
  have hM1 : 1 ≤ M := by rw [← hM]; exact Nat.two_pow_pos _
  obtain ⟨d, hd⟩ : ∃ d : Nat, 2 ^ (t - 1) = d := ⟨_, rfl⟩
  have hd1 : 1 ≤ d := by rw [← hd]; exact Nat.two_pow_pos _
  have hd32 : d ≤ 32 := by rw [← hd]; exact Nat.pow_le_pow_right (n := 2) (i := t - 1) (by omega) (show t - 1 ≤ 5 by omega)
  have hstg : Bi.stg (M : Int) = S := by rw [← hM, ← Bi.two_nat]; exact Bi.stg_pow hS16
  have hF : Bi.Found (Bi.stg (M : Int)) (r : Int) s t true := by rw [hstg]; exact .inl ⟨rfl, hst⟩
  have HPS := Lib.hid (show Bi.pairsOf (M : Int) t true = Net.firsts d M by rw [← hM, ← Bi.two_nat, Bi.pairs_pow hS16, hd])
  have HPL := Lib.hid (fun a (ha : a ∈ Net.firsts d M) => show a + d < M from by
    have := Bi.pair_lt (S := S) k1 (Nat.le_trans k2 k3) (a := a) (by rw [hd, hM]; exact ha)
    rwa [hd, hM] at this)
  have HPB := Lib.hid (fun a (ha : a ∈ Net.firsts d M) => show a / 2 ^ (t - 1) % 2 = 0 by rw [hd]; exact (Bi.mem_firsts.1 ha).2)
  have HUP := Lib.hid (fun (a : Nat) (W : World) (ha : a ≤ 100) (hT : Bi.TzT W) => Bi.up_any (M : Int) (r : Int) (a : Int) S s t true W (by omega) (by omega) (by omega) (by omega) hT hstg (by rw [← hstg]; exact hF))
  have HHL := Lib.hid hl
  rw [hd] at HIN
  rw [hM] at hl hMl HIN ⊢
  obtain rfl : M = n := by omega
  have HZ := Lib.hid hz
  have HWF := Lib.hid hwf
  have HMl := Lib.hid hMl
  obtain ⟨g0, rfl, hg00, hg0w, _⟩ := own_at0 o0 (by omega)
  have hTw := hT.lt
  clear hn' hlen hst hstg k1 k2 k3 k4 hr hl hz hwf hMl hS hS16
  refine (callsIn_wide (n := 3)).1 ?_
  refine callsIn_of_wp_marks Tryd.func53 rfl trivial ?_ rfl
  simp only [Tryd.ntmps53, List.size_toArray, List.length_cons, List.length_nil, Nat.reduceAdd, Nat.reduceSub, Array.replicate_succ, Array.replicate_zero, List.push_toArray, List.append_toArray, List.nil_append, List.cons_append]
  refine wpIn_wide.2 ?_
  go_wp2_with (first
    | (refine Held.wpList_box_cell (w := w) rfl 45 _ rfl (.slice (some ⟨g0, 0, none⟩) M c) rfl rfl ?_; intro u1 q3 g1 z1)
    | (refine Held.wpList_box_cell (w := u1) rfl 3 _ rfl (.int .i64 (r : Int)) rfl rfl ?_; intro u2 q4 g2 z2)
    | (refine Held.wpList_box_cell (w := u2) rfl 4 _ rfl (.bool seq) rfl rfl ?_; intro u3 q5 g3 z3; have q3 : Blk u1 w.heap.size 45 #[.slice (some ⟨g0, 0, none⟩) M c] := q3; have q4 : Blk u2 u1.heap.size 3 #[.int .i64 (r : Int)] := q4; have q5 : Blk u3 u2.heap.size 4 #[.bool seq] := q5; have q3 := (q3.grown g2 (by simp)).grown g3 (by simp); have q4 := q4.grown g3 (by simp); have c3 := q3.cell (i := 0) rfl)
    | (refine wpList_make_slots (w := u3) rfl _ _ rfl w.heap.size .i64 .i64 M rfl rfl (by omega) (by have h1 := g1.size; have h2 := g2.size; have h3 := g3.size; omega) ?_; intro u4 o4 g4)
    | (refine Held.wpList_alloc_cell (w := u4) rfl 45 rfl (.slice none 0 0) (by kernel_rfl) rfl ?_; intro u5 q7 g5 z5)
    | (refine Held.wpList_store_box (w := u5) rfl 45 _ _ rfl u4.heap.size rfl _ _ (.slice (some ⟨u3.heap.size, 0, none⟩) M M) rfl q7 (by kernel_rfl) rfl rfl ?_; intro u6 q7 g6; have c3 := (((q3.grown g4 (by simp)).grown g5 (by simp)).grown g6 (by have h1 := z1.out; have h2 := g2.size; have h3 := g3.size; have h4 := g4.size; intro e; injection e with e; omega)).cell (i := 0) rfl; have c4 := (((q4.grown g4 (by simp)).grown g5 (by simp)).grown g6 (by have h1 := z2.out; have h3 := g3.size; have h4 := g4.size; intro e; injection e with e; omega)).cell (i := 0) rfl))
  have l1 : w.heap.size < u1.heap.size := by have := z1.out; omega
  have l2 : u1.heap.size < u2.heap.size := by have := z2.out; omega
  have l3 : u2.heap.size < u3.heap.size := by have := z3.out; omega
  have l4 : u3.heap.size < u4.heap.size := (OwnL.lt o4 _ rfl).2
  have l5 : u4.heap.size < u5.heap.size := by have := z5.out; omega
  have l6 := g6.size
  have ne : ∀ b, b < u4.heap.size → some b ≠ some u4.heap.size := fun b hb e => by injection e with e; omega
  have q7 : Blk u6 u4.heap.size 45 #[.slice (some ⟨u3.heap.size, 0, none⟩) M M] := q7
  have b6 : Below w.heap.size w u6 := ((((((Below.refl _ w).grown g1 (Nat.le_refl _) (by simp)).grown g2 (by omega) (by simp)).grown g3 (by omega) (by simp)).grown g4 (by omega) (by simp)).grown g5 (by omega) (by simp)).grown g6 (by omega) (fun r e => by cases e; omega)
  have hN : NR w w.heap.size u1.heap.size u2.heap.size u4.heap.size u3.heap.size M (.slice (some ⟨g0, 0, none⟩) M c) (r : Int) seq (List.replicate M kS.d) (List.replicate M []) u6 :=
    ⟨own_new (own_new o4 g5 (fun r e => by cases e)) g6 (fun r e b hb => by cases e; have e : some u3.heap.size = some b := hb; injection e with e; omega), Lib.hid (by simp), none_yet _ _ _,
      ((q3.grown g4 (by simp)).grown g5 (by simp)).grown g6 (ne _ (by omega)), ((q4.grown g4 (by simp)).grown g5 (by simp)).grown g6 (ne _ (by omega)), ((q5.grown g4 (by simp)).grown g5 (by simp)).grown g6 (ne _ (by omega)), q7, b6⟩
  have n37 : w.heap.size ≠ u4.heap.size ∧ u1.heap.size ≠ u4.heap.size ∧ u2.heap.size ≠ u4.heap.size := ⟨by omega, by omega, by omega⟩
  have hgb : w.heap.size ≤ u3.heap.size := by omega
  have hb7 : w.heap.size ≤ u4.heap.size := by omega
  clear q3 q4 q5 q7 o4 g1 g2 g3 g4 g5 g6 z1 z2 z3 z5 b6 l1 l2 l3 l4 l5 ne c3 c4
  generalize u1.heap.size = b4 at *
  generalize u2.heap.size = b5 at *
  generalize u4.heap.size = b7 at *
  generalize u3.heap.size = g at *
  generalize u6 = u at *
  refine (Bi.round_any (M : Int) (r : Int) u).mono ?_
  rintro e v ⟨bn, br, rfl, qn, qr, hbn, hbr, bv⟩
  have hN := hN.after bv
  have hit := fun N => Bi.round_give N bn br (M : Int) (r : Int) s t true v (by omega) (by omega) ((hT.below hN.below hTw)) hF qn qr
  rw [HPS.out] at hit
  have hwv := hN.below.size
  clear l6 bv qn qr HPS hF
  go_wp2_with fail
  refine (wpIn_wide (n := 3)).1 ?_
  refine wpIn_rangeFunc_give rfl (by omega) (gf := 82) (lb := #[.pointer (some ⟨bn, 0, none⟩), .pointer (some ⟨br, 0, none⟩)]) rfl trivial (enters_of Tryd.func82 (by kernel_rfl) rfl)
    (hit _) (fun _ _ => trivial) (fun _ _ _ _ _ _ _ _ => trivial) (Below.refl _ _) (fun x B W args hx => by cases hx; rfl)
    (fun pre W => ∃ vs, NR w w.heap.size b4 b5 b7 g M (.slice (some ⟨g0, 0, none⟩) M c) (r : Int) seq vs (pre.foldl (intoB seq d (Net.ups s) bs) (List.replicate M [])) W) ?hi ⟨_, hN⟩
    (fun x a' pre W => (∃ vs, NR w w.heap.size b4 b5 b7 g M (.slice (some ⟨g0, 0, none⟩) M c) (r : Int) seq vs (pre.foldl (intoB seq d (Net.ups s) bs) (List.replicate M [])) W) ∧ a' = { tmps := #[.slice (some ⟨g0, 0, none⟩) M c, .int .i64 (r : Int), .bool seq, .pointer (some ⟨w.heap.size, 0, none⟩), .pointer (some ⟨b4, 0, none⟩), .pointer (some ⟨b5, 0, none⟩), .slice none 0 0, .pointer (some ⟨b7, 0, none⟩), .int .i64 (x : Int), .int .i64 ((x + d : Nat) : Int), undef, undef, .slice (some ⟨g0, 0, none⟩) M c, .int .i64 (M : Int), .slice (some ⟨g, 0, none⟩) M M, .slice (some ⟨g0, 0, none⟩) M c, .int .i64 (M : Int), .int .i64 (r : Int), .func (.func 82) #[] #[.pointer (some ⟨bn, 0, none⟩), .pointer (some ⟨br, 0, none⟩)], .int .i64 (x : Int), .int .i64 ((x + d : Nat) : Int), undef, undef, undef, undef, undef, undef, undef, undef, undef, undef, undef, undef, undef, undef, undef, undef, undef, undef, undef, undef, undef, undef, undef, undef, undef, undef, undef, undef, undef, undef, undef, undef, undef, undef, undef], defers := [] }) ?ib ?assign ?body ?done
  case hi =>
    rintro pre W W' row ⟨vs, h⟩ hg hr
    exact ⟨vs, h.off hwv hg hr⟩
  case ib =>
    rintro x a' pre W W' row ⟨⟨vs, h⟩, h3⟩ hg hr
    exact ⟨⟨vs, h.off hwv hg hr⟩, h3⟩
  case assign =>
    rintro l pre x args W0 W K ⟨vs, h⟩ hg rfl hpre hsz hK
    have e1 : (x : Int) + 2 ^ (t - 1) = ((x + d : Nat) : Int) := by rw [Bi.two_nat, hd]; omega
    rw [e1]
    simp only [Held.zip_two, List.setIfInBounds_toArray, List.set_cons_zero, List.set_cons_succ]
    gi_wp2_with fail
    exact hK _ _ (KeepsOthers.refl _) trivial ⟨⟨vs, h.far hg (fun r e => by cases e) (by simp) (by simp) (by simp) (by simp)⟩, rfl⟩
  case body =>
    rintro l pre x a' W ⟨⟨vs, H⟩, rfl⟩ hpre hsz
    have hmem : x ∈ Net.firsts d M := hpre.subset (by simp)
    have hxd := HPL.out x hmem
    have hxb := HPB.out x hmem
    have hxM : x < M := by omega
    have HSN := Lib.hid (show (pre ++ [x]).foldl (intoB seq d (Net.ups s) bs) (List.replicate M []) = intoB seq d (Net.ups s) bs (pre.foldl (intoB seq d (Net.ups s) bs) (List.replicate M [])) x by rw [List.foldl_append]; rfl)
    rw [HSN.out]
    generalize pre.foldl (intoB seq d (Net.ups s) bs) (List.replicate M []) = ds at H
    clear HSN hpre hmem
    have hbW : Below w.heap.size w W := H.below
    have hTW := hT.below hbW hTw
    have o0W := OwnL.below o0 hbW
    have t0W := t0.below hbW
    obtain ⟨ca, hgr⟩ := slot_cell o0W hxM
    obtain ⟨cb, _⟩ := slot_cell o0W hxd
    have oX : OwnL kRec 51 W Bs (slV (vs0.getD x kS.d)) (blk bs x) := t0W.2 x (by have := HMl.out; omega)
    have oY : OwnL kRec 51 W Bs (slV (vs0.getD (x + d) kS.d)) (blk bs (x + d)) := t0W.2 (x + d) (by have := HMl.out; omega)
    have hXl : (blk bs x).length = z := HZ.out _ (blk_mem (by rw [HHL.out, hM]; exact hxM))
    have hYl : (blk bs (x + d)).length = z := HZ.out _ (blk_mem (by rw [HHL.out, hM]; exact hxd))
    obtain ⟨⟨A1, n1, c1⟩, hp1⟩ : ∃ p, vs0.getD x kS.d = p := ⟨_, rfl⟩
    obtain ⟨⟨A2, n2, c2⟩, hp2⟩ : ∃ p, vs0.getD (x + d) kS.d = p := ⟨_, rfl⟩
    rw [hp1] at oX ca
    rw [hp2] at oY cb
    have lX := OwnL.lst (A := A1) (n := n1) (c := c1) oX (HWF.out.blk x)
    have lY := OwnL.lst (A := A2) (n := n2) (c := c2) oY (HWF.out.blk (x + d))
    obtain rfl : z = n1 := hXl.symm.trans lX.1
    obtain rfl : z = n2 := hYl.symm.trans lY.1
    have ca : W.cell? ⟨g0, 0 + x, none⟩ = some (.slice A1 z c1) := by rw [Nat.zero_add]; exact ca
    have cb : W.cell? ⟨g0, 0 + (x + d), none⟩ = some (.slice A2 z c2) := by rw [Nat.zero_add]; exact cb
    have HSP := Lib.hid (show intoB seq d (Net.ups s) bs ds x = (ds.set x (if Net.ups s x then (sortR seq (blk bs x ++ blk bs (x + d))).take (blk bs x).length else (sortR seq (blk bs x ++ blk bs (x + d))).drop (blk bs x).length)).set (x + d) (if Net.ups s x then (sortR seq (blk bs x ++ blk bs (x + d))).drop (blk bs x).length else (sortR seq (blk bs x ++ blk bs (x + d))).take (blk bs x).length) from rfl)
    have HLT := Lib.hid (show (sortR seq (blk bs x ++ blk bs (x + d))).length = z + z by rw [sortR_length, List.length_append, hXl, hYl])
    have HUV := Lib.hid (upV_is (s := s) (t := t) hxM hxb)
    have HXL := Lib.hid hXl
    generalize blk bs x = X at lX HSP HXL HLT
    generalize blk bs (x + d) = Y at lY HSP HLT
    clear hXl hYl hp1 hp2 hxb oX oY o0W t0W
    gi_wp2_with fail
    refine Held.wpIn_region_heldR (r := some l) (S := fun X => Below W.heap.size W X) rfl (by kernel_rfl) (by kernel_rfl) (by intro a w h; exact h) ?_
    change wpAnyH _ _ _ _ _ _ _ _ W.drew
    have c0_0 := (Below.refl W.heap.size W).drew
    refine Held.tk (v := .slice (some ⟨g0, 0, none⟩) M c) 0 (some 22) rfl (Held.y_load rfl rfl (by kernel_rfl) (fun W1 hW => (H.src.after hW).cell (i := 0) rfl)) c0_0 ?_
    simp only [Act.put, Z1, Z2, Z3]
    refine Held.tk (v := .int .i64 (x : Int)) 1 (some 23) rfl (Held.y_move rfl rfl) c0_0 ?_
    simp only [Act.put, Z1, Z2, Z3]
    refine Held.tk (v := .pointer (some ⟨g0, 0 + x, none⟩)) 2 (some 24) rfl (Held.y_addr rfl rfl rfl (run_addr_slice 45 48 g0 0 M c x .i64 Tryd.underlying45 (by kernel_rfl) hxM)) c0_0 ?_
    simp only [Act.put, Z1, Z2, Z3]
    refine Held.tk (v := .slice A1 z c1) 3 (some 25) rfl (Held.y_load rfl rfl (by kernel_rfl) (fun W1 hW => (hW.cell (p := ⟨g0, 0 + x, none⟩) hgr).trans ca)) c0_0 ?_
    simp only [Act.put, Z1, Z2, Z3]
    refine Held.tk (v := .slice (some ⟨g0, 0, none⟩) M c) 4 (some 26) rfl (Held.y_load rfl rfl (by kernel_rfl) (fun W1 hW => (H.src.after hW).cell (i := 0) rfl)) c0_0 ?_
    simp only [Act.put, Z1, Z2, Z3]
    refine Held.tk (v := .int .i64 ((x + d : Nat) : Int)) 5 (some 27) rfl (Held.y_move rfl rfl) c0_0 ?_
    simp only [Act.put, Z1, Z2, Z3]
    refine Held.tk (v := .pointer (some ⟨g0, 0 + (x + d), none⟩)) 6 (some 28) rfl (Held.y_addr rfl rfl rfl (run_addr_slice 45 48 g0 0 M c (x + d) .i64 Tryd.underlying45 (by kernel_rfl) hxd)) c0_0 ?_
    simp only [Act.put, Z1, Z2, Z3]
    refine Held.tk (v := .slice A2 z c2) 7 (some 29) rfl (Held.y_load rfl rfl (by kernel_rfl) (fun W1 hW => (hW.cell (p := ⟨g0, 0 + (x + d), none⟩) hgr).trans cb)) c0_0 ?_
    simp only [Act.put, Z1, Z2, Z3]
    refine Held.tk (v := .bool seq) 8 (some 30) rfl (Held.y_load rfl rfl (by kernel_rfl) (fun W1 hW => (H.sq.after hW).cell (i := 0) rfl)) c0_0 ?_
    simp only [Act.put, Z1, Z2, Z3]
    refine Held.one 9 (by kernel_rfl) ?_
    refine Held.op_call 9 (some 31) 65 #[.slice A1 z c1, .slice A2 z c2, .bool seq] rfl rfl rfl rfl (enters_of Tryd.func65 (by kernel_rfl) rfl) (by simp [Act.eval])
      (split_any W.heap.size W.heap.size A1 A2 z c1 z c2 X Y seq _ (Lst.below lX c0_0) (Lst.below lY c0_0) c0_0.size c0_0.size (by omega) (by omega)) ?_
    rintro e w1 ⟨y, y2, rfl, o1, o2, b1⟩
    have c0_1 := c0_0.trans (b1.mono c0_0.size)
    refine ⟨_, rfl, c0_1, ?_⟩
    simp only [Act.put, Z1, Z2, Z3]
    refine Held.tk (v := .tuple #[y, y2]) 10 (some 21) rfl (Held.y_move rfl rfl) c0_1 ?_
    simp only [Act.put, Z1, Z2, Z3]
    refine Held.tk (v := y) 11 (some 32) rfl (Held.y_extract rfl rfl rfl) c0_1 ?_
    simp only [Act.put, Z1, Z2, Z3]
    refine Held.tk (v := y2) 12 (some 33) rfl (Held.y_extract rfl rfl rfl) c0_1 ?_
    simp only [Act.put, Z1, Z2, Z3]
    refine Held.tk (v := y) 13 (some 10) rfl (Held.y_assign rfl rfl) c0_1 ?_
    simp only [Act.put, Z1, Z2, Z3]
    refine Held.tk (v := y2) 14 (some 11) rfl (Held.y_assign rfl rfl) c0_1 ?_
    simp only [Act.put, Z1, Z2, Z3]
    refine wpAnyH_done (by kernel_rfl) ?_ _
    have H1 := H.after c0_1
    have o1 := OwnL.less o1 (Nat.le_trans hbW.size c0_0.size)
    have o2 := OwnL.less o2 (Nat.le_trans hbW.size c0_0.size)
    obtain ⟨Al, n1, cl, rfl, hn1, _⟩ := OwnL.form2 o1
    obtain rfl : z = n1 := by have := hn1.out; rw [List.length_take, HLT.out, HXL.out] at this; omega
    obtain ⟨Ah, n2, ch, rfl, hn2, _⟩ := OwnL.form2 o2
    obtain rfl : z = n2 := by have := hn2.out; rw [List.length_drop, HLT.out, HXL.out] at this; omega
    have ha1 : ∀ W : World, (Instr.indexAt 45 (.slice (some ⟨g, 0, none⟩) M M) (.int .i64 (x : Int))).run Tryd.prog W = .ok (.pointer (some ⟨g, x, none⟩)) W := fun W => by
      have := run_addr_slice (P := Tryd.prog) 45 48 g 0 M M x .i64 Tryd.underlying45 (by kernel_rfl) hxM W
      rwa [Nat.zero_add] at this
    have ha2 : ∀ W : World, (Instr.indexAt 45 (.slice (some ⟨g, 0, none⟩) M M) (.int .i64 ((x + d : Nat) : Int))).run Tryd.prog W = .ok (.pointer (some ⟨g, x + d, none⟩)) W := fun W => by
      have := run_addr_slice (P := Tryd.prog) 45 48 g 0 M M (x + d) .i64 Tryd.underlying45 (by kernel_rfl) hxd W
      rwa [Nat.zero_add] at this
    have oD : OwnL kS 48 w1.drew w.heap.size (.slice (some ⟨g, 0, none⟩) M M) vs := H1.own
    have h7g : b7 ≠ g := fun e => OwnL.ne_blk H1.own H1.dst (by decide) (by rw [e]; rfl)
    have hT1 := hTW.below c0_1 hTW.lt
    have hUP := HUP.out x w1 (by omega) hT1
    rw [HUV.out] at hUP
    have c3 := H1.src.cell (i := 0) rfl
    have c4 := H1.rnd.cell (i := 0) rfl
    clear hn1 hn2 ca cb lX lY b1 H hTW hT1
    gi_wp2_with fail
    refine ⟨trivial, ?_⟩
    refine (CallsIn.inRound l (callsIn_wide.2 hUP)).mono ?_
    rintro e w2 ⟨rfl, rfl⟩
    clear hUP c3 c4
    cases hu : Net.ups s x with
    | true =>
      rw [hu] at HSP
      have HSP := Lib.hid (show intoB seq d (Net.ups s) bs ds x = (ds.set x ((sortR seq (X ++ Y)).take X.length)).set (x + d) ((sortR seq (X ++ Y)).drop X.length) from HSP.out)
      have T3 := (H1.tb.set (j := x) (p := (Al, z, cl)) (by have := H1.len.out; omega) o1).set (j := x + d) (p := (Ah, z, ch)) (by rw [List.length_set]; have := H1.len.out; omega) o2
      rw [← HSP.out] at T3
      clear HSP hu
      gi_wp2_with fail
      refine Held.wpIn_region_heldR (r := some l) (S := fun X => Blk X b7 45 #[.slice (some ⟨g, 0, none⟩) M M]) rfl (by kernel_rfl) (by kernel_rfl) (by intro a w h; exact h) ?_
      have d0 : Blk w1.drew b7 45 #[.slice (some ⟨g, 0, none⟩) M M] := H1.dst
      change wpAnyH _ _ _ _ _ _ _ _ w1.drew
      refine Held.tk (v := .slice (some ⟨g, 0, none⟩) M M) 0 (some 39) rfl (Held.y_load rfl rfl (by kernel_rfl) (fun W1 hW => hW.cell (i := 0) rfl)) d0 ?_
      simp only [Act.put, Z1, Z2, Z3]
      refine Held.tk (v := .int .i64 (x : Int)) 1 (some 40) rfl (Held.y_move rfl rfl) d0 ?_
      simp only [Act.put, Z1, Z2, Z3]
      refine Held.tk (v := .slice (some ⟨g, 0, none⟩) M M) 2 (some 41) rfl (Held.y_load rfl rfl (by kernel_rfl) (fun W1 hW => hW.cell (i := 0) rfl)) d0 ?_
      simp only [Act.put, Z1, Z2, Z3]
      refine Held.tk (v := .int .i64 ((x + d : Nat) : Int)) 3 (some 42) rfl (Held.y_move rfl rfl) d0 ?_
      simp only [Act.put, Z1, Z2, Z3]
      refine Held.tk (v := slV (Al, z, cl)) 4 (some 43) rfl (Held.y_move rfl rfl) d0 ?_
      simp only [Act.put, Z1, Z2, Z3]
      refine Held.tk (v := slV (Ah, z, ch)) 5 (some 44) rfl (Held.y_move rfl rfl) d0 ?_
      simp only [Act.put, Z1, Z2, Z3]
      refine Held.tk (v := .pointer (some ⟨g, x, none⟩)) 6 (some 45) rfl (Held.y_addr rfl rfl rfl ha1) d0 ?_
      simp only [Act.put, Z1, Z2, Z3]
      refine Held.one 7 (by kernel_rfl) ?_
      refine op_store_slot 7 none w.heap.size g M M x vs (Al, z, cl) rfl rfl rfl rfl rfl rfl oD (by have := H1.len.out; omega) ?_
      intro w3 o3 g3
      have d1 : Blk w3 b7 45 #[.slice (some ⟨g, 0, none⟩) M M] := d0.grown g3 (by intro e; injection e with e; exact h7g e)
      refine ⟨d1, ?_⟩
      simp only [Act.put]
      refine Held.tk (v := .pointer (some ⟨g, x + d, none⟩)) 8 (some 46) rfl (Held.y_addr rfl rfl rfl ha2) d1 ?_
      simp only [Act.put, Z1, Z2, Z3]
      refine Held.one 9 (by kernel_rfl) ?_
      refine op_store_slot 9 none w.heap.size g M M (x + d) (vs.set x (Al, z, cl)) (Ah, z, ch) rfl rfl rfl rfl rfl rfl o3 (by rw [List.length_set]; have := H1.len.out; omega) ?_
      intro w4 o4 g4
      refine ⟨d1.grown g4 (by intro e; injection e with e; exact h7g e), ?_⟩
      simp only [Act.put]
      refine wpAnyH_done (by kernel_rfl) ?_ _
      have gd : w1.grownBy w1.drew none := grown_of_below (Below.refl w1.heap.size w1).drew none
      have hkc : ∀ {Wa Wb : World} {vs' : List (Option Addr × Nat × Nat)}, OwnL kS 48 Wa w.heap.size (.slice (some ⟨g, 0, none⟩) M M) vs' → Wa.grownBy Wb (some g) → KeepsOthers Wa Wb := fun ho hg => by
        obtain ⟨cs, hc⟩ := own_cells ho (b := g) rfl
        exact Held.others_of_grown hc hg
      have T4 := ((T3.grown gd (fun r e => by cases e)).grown g3 (fun r e => own_cells oD e)).grown g4 (fun r e => own_cells o3 e)
      have n3 : ∀ {b : Nat} {ty : TypeId} {cs : Array Value}, ty ≠ 48 → Blk w1 b ty cs → Blk w4 b ty cs := fun ht hb => by
        have hbg : some _ ≠ some g := fun e => OwnL.ne_blk H1.own hb (Ne.symm ht) e.symm
        exact ((Blk.drew hb).grown g3 hbg).grown g4 hbg
      refine ⟨(Held.others_of_new (grown_of_below c0_1 none)).trans ((Held.others_of_new gd).trans ((hkc oD g3).trans (hkc o3 g4))), trivial, _, ⟨o4, Lib.hid (by rw [List.length_set, List.length_set]; exact H1.len.out), T4, n3 (by decide) H1.src, n3 (by decide) H1.rnd, n3 (by decide) H1.sq, n3 (by decide) H1.dst, ?_⟩⟩
      exact ((H1.below.grown gd H1.below.size (by simp)).grown g3 (by have := H1.below.size; have := gd.size; omega) (fun r e => by cases e; exact hgb)).grown g4 (by have := H1.below.size; have := gd.size; have := g3.size; omega) (fun r e => by cases e; exact hgb)
    | false =>
      rw [hu] at HSP
      have HSP := Lib.hid (show intoB seq d (Net.ups s) bs ds x = (ds.set x ((sortR seq (X ++ Y)).drop X.length)).set (x + d) ((sortR seq (X ++ Y)).take X.length) from HSP.out)
      have T3 := (H1.tb.set (j := x) (p := (Ah, z, ch)) (by have := H1.len.out; omega) o2).set (j := x + d) (p := (Al, z, cl)) (by rw [List.length_set]; have := H1.len.out; omega) o1
      rw [← HSP.out] at T3
      clear HSP hu
      gi_wp2_with fail
      refine Held.wpIn_region_heldR (r := some l) (S := fun X => Blk X b7 45 #[.slice (some ⟨g, 0, none⟩) M M]) rfl (by kernel_rfl) (by kernel_rfl) (by intro a w h; exact h) ?_
      have d0 : Blk w1.drew b7 45 #[.slice (some ⟨g, 0, none⟩) M M] := H1.dst
      change wpAnyH _ _ _ _ _ _ _ _ w1.drew
      refine Held.tk (v := .slice (some ⟨g, 0, none⟩) M M) 0 (some 47) rfl (Held.y_load rfl rfl (by kernel_rfl) (fun W1 hW => hW.cell (i := 0) rfl)) d0 ?_
      simp only [Act.put, Z1, Z2, Z3]
      refine Held.tk (v := .int .i64 (x : Int)) 1 (some 48) rfl (Held.y_move rfl rfl) d0 ?_
      simp only [Act.put, Z1, Z2, Z3]
      refine Held.tk (v := .slice (some ⟨g, 0, none⟩) M M) 2 (some 49) rfl (Held.y_load rfl rfl (by kernel_rfl) (fun W1 hW => hW.cell (i := 0) rfl)) d0 ?_
      simp only [Act.put, Z1, Z2, Z3]
      refine Held.tk (v := .int .i64 ((x + d : Nat) : Int)) 3 (some 50) rfl (Held.y_move rfl rfl) d0 ?_
      simp only [Act.put, Z1, Z2, Z3]
      refine Held.tk (v := slV (Ah, z, ch)) 4 (some 51) rfl (Held.y_move rfl rfl) d0 ?_
      simp only [Act.put, Z1, Z2, Z3]
      refine Held.tk (v := slV (Al, z, cl)) 5 (some 52) rfl (Held.y_move rfl rfl) d0 ?_
      simp only [Act.put, Z1, Z2, Z3]
      refine Held.tk (v := .pointer (some ⟨g, x, none⟩)) 6 (some 53) rfl (Held.y_addr rfl rfl rfl ha1) d0 ?_
      simp only [Act.put, Z1, Z2, Z3]
      refine Held.one 7 (by kernel_rfl) ?_
      refine op_store_slot 7 none w.heap.size g M M x vs (Ah, z, ch) rfl rfl rfl rfl rfl rfl oD (by have := H1.len.out; omega) ?_
      intro w3 o3 g3
      have d1 : Blk w3 b7 45 #[.slice (some ⟨g, 0, none⟩) M M] := d0.grown g3 (by intro e; injection e with e; exact h7g e)
      refine ⟨d1, ?_⟩
      simp only [Act.put]
      refine Held.tk (v := .pointer (some ⟨g, x + d, none⟩)) 8 (some 54) rfl (Held.y_addr rfl rfl rfl ha2) d1 ?_
      simp only [Act.put, Z1, Z2, Z3]
      refine Held.one 9 (by kernel_rfl) ?_
      refine op_store_slot 9 none w.heap.size g M M (x + d) (vs.set x (Ah, z, ch)) (Al, z, cl) rfl rfl rfl rfl rfl rfl o3 (by rw [List.length_set]; have := H1.len.out; omega) ?_
      intro w4 o4 g4
      refine ⟨d1.grown g4 (by intro e; injection e with e; exact h7g e), ?_⟩
      simp only [Act.put]
      refine wpAnyH_done (by kernel_rfl) ?_ _
      have gd : w1.grownBy w1.drew none := grown_of_below (Below.refl w1.heap.size w1).drew none
      have hkc : ∀ {Wa Wb : World} {vs' : List (Option Addr × Nat × Nat)}, OwnL kS 48 Wa w.heap.size (.slice (some ⟨g, 0, none⟩) M M) vs' → Wa.grownBy Wb (some g) → KeepsOthers Wa Wb := fun ho hg => by
        obtain ⟨cs, hc⟩ := own_cells ho (b := g) rfl
        exact Held.others_of_grown hc hg
      have T4 := ((T3.grown gd (fun r e => by cases e)).grown g3 (fun r e => own_cells oD e)).grown g4 (fun r e => own_cells o3 e)
      have n3 : ∀ {b : Nat} {ty : TypeId} {cs : Array Value}, ty ≠ 48 → Blk w1 b ty cs → Blk w4 b ty cs := fun ht hb => by
        have hbg : some _ ≠ some g := fun e => OwnL.ne_blk H1.own hb (Ne.symm ht) e.symm
        exact ((Blk.drew hb).grown g3 hbg).grown g4 hbg
      refine ⟨(Held.others_of_new (grown_of_below c0_1 none)).trans ((Held.others_of_new gd).trans ((hkc oD g3).trans (hkc o3 g4))), trivial, _, ⟨o4, Lib.hid (by rw [List.length_set, List.length_set]; exact H1.len.out), T4, n3 (by decide) H1.src, n3 (by decide) H1.rnd, n3 (by decide) H1.sq, n3 (by decide) H1.dst, ?_⟩⟩
      exact ((H1.below.grown gd H1.below.size (by simp)).grown g3 (by have := H1.below.size; have := gd.size; omega) (fun r e => by cases e; exact hgb)).grown g4 (by have := H1.below.size; have := gd.size; have := g3.size; omega) (fun r e => by cases e; exact hgb)
  case done =>
    rintro D W hD ⟨vs, H⟩ hDh
    rw [HIN.out _ (by simp)] at H
    have c7 := H.dst.cell (i := 0) rfl
    have HMr := Lib.hid (show (roundB seq M bs (s, t)).length = M by rw [roundB_length, HHL.out, hM])
    go_wp2_with fail
    refine ⟨by simp, .inl ⟨_, _, rfl, run_takeDeferred hDh, ?_⟩⟩
    refine ⟨_, results_tmp rfl _ _ _, ?_⟩
    have gp := grownBy_putObj' W D (.deferred none)
    have H2 := H.far gp (fun r e => by cases e; exact ⟨by omega, nol_off hDh rfl⟩) (blk_ne H.src hDh rfl) (blk_ne H.rnd hDh rfl) (blk_ne H.sq hDh rfl) (blk_ne H.dst hDh rfl)
    exact ⟨_, rfl, ⟨vs, H2.own, H2.tb⟩, H2.below⟩
end Go.Proofs.YtlinmcgmkpkpaaaDoor.Pi
namespace Go.Proofs.YtlinmcgmkpkpaaaDoor.Pi
open Go.RowKit Go.Shelf Mem Held Go.Proofs.YtlinmcgmkpkpaaaDoor.Range Ct Rc Rs Sl Vm Mg
attribute [local go_sem] Oper.semAt_some
attribute [local irreducible] wpList wpListIn Calls
def atR (seq : Bool) (M T : Nat) (bs : List (List R)) (k : Nat) : Option (Nat × List (List R)) := if k ≤ T then some (k, behB seq M bs k) else none
set_option maxRecDepth 100000 in
set_option maxHeartbeats 2000000 in
theorem rounds_any (V : Value) (seq : Bool) (w : World) (hV : V.cells = #[V]) :
    Calls Tryd.prog 44 #[V, .bool seq] w fun e w' => ∃ bl bq : Nat, e = .returned (.func (.func 52) #[] #[.pointer (some ⟨bl, 0, none⟩), .pointer (some ⟨bq, 0, none⟩)]) ∧
      Blk w' bl 45 #[V] ∧ Blk w' bq 4 #[.bool seq] ∧ w.heap.size ≤ bl ∧ w.heap.size ≤ bq ∧ Below w.heap.size w w' := by
  go_enter Tryd.func44, Tryd.ntmps44
  go_wp2_with (first
    | (refine Held.wpList_box_cell (w := w) rfl 45 _ rfl V rfl hV ?_; intro u1 q1 g1 z1)
    | (refine Held.wpList_box_cell (w := u1) rfl 4 _ rfl (.bool seq) rfl rfl ?_; intro u2 q2 g2 z2))
  go_ret
  have q1 : Blk u1 w.heap.size 45 #[V] := q1
  exact ⟨_, _, rfl, q1.grown g2 (by simp), q2, Nat.le_refl _, g1.size, ((Below.refl _ w).grown g1 (Nat.le_refl _) (by simp)).grown g2 g1.size (by simp)⟩
set_option maxRecDepth 100000 in
set_option maxHeartbeats 8000000 in
theorem rounds_g (N bl bq Bs S z T : Nat) (Sx : Nat → Prop) (A : Option Addr) (n c : Nat) (bs : List (List R)) (seq : Bool) (w : World) (q1 : Blk w bl 45 #[.slice A n c]) (q2 : Blk w bq 4 #[.bool seq]) (hG : Grid w Bs (.slice A n c) bs) (hl : bs.length = 2 ^ S) (hS : S ≤ 5) (hz : ∀ x ∈ bs, x.length = z) (hz8 : z ≤ 8) (hwf : Wf bs) (hT : Bi.TzT w) (hTS : Bi.tri S = T) (he : ∀ r, r ≤ T → ∀ x ∈ behB seq (2 ^ S) bs r, x.length = z)
    (hBs : Bs ≤ w.heap.size) (s1 : ¬ Sx bl) (s2 : ¬ Sx bq) (s3 : ¬ Sx 1) :
    SeqG Fence.wide N Tryd.prog 52 #[.pointer (some ⟨bl, 0, none⟩), .pointer (some ⟨bq, 0, none⟩)] TL (EncG Bs) (KeepL Sx) (atR seq (2 ^ S) T bs) w := by
  intro l J Jx W hW hJ hJx hY h0
  have hTW := hT.below hW hT.lt
  have hGW := hG.below hW
  have q1 := q1.after hW
  have q2 := q2.after hW
  have hBW := Nat.le_trans hBs hW.size
  obtain ⟨A', n', c', e1, hn'⟩ := hG.form
  injection e1 with e1 e2 e3
  subst e1
  subst e2
  subst e3
  have hn : n = 2 ^ S := by rw [← hn'.out, hl]
  have hM32 : 2 ^ S ≤ 32 := Nat.pow_le_pow_right (n := 2) (i := S) (by omega) hS
  have hT136 : T ≤ 136 := by rw [← hTS]; exact Bi.tri_le (by omega)
  have hstg : Bi.stg (n : Int) = S := by rw [hn, ← Bi.two_nat]; exact Bi.stg_pow (by omega)
  have HRN := Lib.hid (fun (W : World) hT => Bi.rounds_any (n : Int) W (by omega) (by omega) hT)
  rw [hstg, hTS] at HRN
  have HRO := Lib.hid (fun (k : Nat) (A : Option Addr) (c : Nat) (W : World) (hk : k < T) (hG : Grid W Bs (.slice A n c) (behB seq (2 ^ S) bs k)) (hT : Bi.TzT W) => round_ok Bs k S z A n c (behB seq (2 ^ S) bs k) seq W hG (by rw [behB_length, hl]) hS (he k (by omega)) hz8 (behB_wf hwf hl (by omega)) (by omega) hT)
  have HFM := Lib.hid (fun (k : Nat) (V : Value) (W : World) (base : Nat) (hG : Grid W base V (behB seq (2 ^ S) bs k)) => show ∃ A c, V = .slice A n c from by
    obtain ⟨A, m, c, rfl, hm⟩ := hG.form
    have := hm.out
    rw [behB_length, hl] at this
    exact ⟨A, c, by rw [← this, ← hn]⟩)
  have HAT := Lib.hid (fun (k : Nat) (hk : k ≤ T) => show atR seq (2 ^ S) T bs k = some (k, behB seq (2 ^ S) bs k) by rw [atR, if_pos hk])
  have HNO := Lib.hid (show atR seq (2 ^ S) T bs (T + 1) = none by rw [atR, if_neg (by omega)])
  have HY := Lib.hid (fun (k : Nat) (V : Value) (W1 : World) (hk : k ≤ T) (hJk : J k W1) (hG : Grid W1 Bs V (behB seq (2 ^ S) bs k)) (hs : W.heap.size ≤ W1.heap.size) => hY k (k, behB seq (2 ^ S) bs k) #[.int .i64 (k : Int), V] W1 hJk (HAT.out k hk) ⟨V, rfl, hG⟩ hs)
  have hJn := fun (k : Nat) (W1 W2 : World) (h : J k W1) (hb : Below W1.heap.size W1 W2) => hJ.new h (grown_of_below hb none)
  have hb0 : behB seq (2 ^ S) bs 0 = bs := rfl
  rw [← hb0] at hGW
  have HL0 := Lib.hid (hY 0 (0, behB seq (2 ^ S) bs 0) #[.int .i64 0, .slice A n c] W h0 (HAT.out 0 (by omega)) ⟨_, rfl, hGW⟩ (Nat.le_refl _))
  clear hY hG hn' hl hz hwf hT hTS he hstg hn HAT hJ hJx hBs hW hb0 hM32
  obtain ⟨fn, tmps, assign, body, hy, hR⟩ := HL0.out
  have c1 := q1.cell (i := 0) rfl
  refine callsIn_of_wp Tryd.func52 rfl trivial ?_ rfl
  simp only [Tryd.ntmps52, List.size_toArray, List.length_cons, List.length_nil, Nat.reduceAdd, Nat.reduceSub, Array.replicate_succ, Array.replicate_zero, List.push_toArray, List.append_toArray, List.nil_append, List.cons_append]
  gi_wp2_with fail
  refine ⟨fun h => (by cases h), ?_⟩
  refine hR.mono ?_
  rintro e W1 ⟨-, (⟨rfl, J1, k1⟩ | ⟨rfl, x1⟩)⟩
  · have q1 := k1.blk q1 s1
    have q2 := k1.blk q2 s2
    have hT1 := Po.TabK.only hTW k1.only s3
    have hG1 := k1.grid hGW
    have z1 := k1.size
    clear hR hy HL0 h0 k1 hGW hTW c1
    have c1 := q1.cell (i := 0) rfl
    gi_wp2_with fail
    refine ⟨trivial, fun h => (by cases h), ?_⟩
    refine (callsIn_wide.2 (HRN.out W1 hT1)).mono ?_
    rintro e W2 ⟨rfl, rfl⟩
    clear HRN
    gi_wp2_with fail
    gi_loopw [4, 14] (fun v i wr => ∃ k : Nat, k ≤ T ∧ i = .int .i64 k ∧ J (k + 1) wr ∧ Grid wr Bs v (behB seq (2 ^ S) bs k) ∧ Blk wr bq 4 #[.bool seq] ∧ Bi.TzT wr ∧ W.heap.size ≤ wr.heap.size) (fun _ i _ => T - (intOf i).toNat)
    case atStart => exact ⟨0, by omega, rfl, J1, hG1, q2, hT1, z1⟩
    case round =>
      clear J1 hG1 q1 q2 hT1 c1
      obtain ⟨k, hk, rfl, Jk, hGk, q2, hTk, hzk⟩ := hrel
      by_cases hlt : k < T
      · have hlt' : (k : Int) < (T : Int) := by omega
        obtain ⟨A2, c2, rfl⟩ := HFM.out k _ _ _ hGk
        have cq := q2.cell (i := 0) rfl
        have hadd : IntKind.i64.wrap ((k : Int) + 1) = (k : Int) + 1 := by rw [IntKind.wrap_i64]; omega
        have HO := HRO.out k A2 c2 wr hlt hGk hTk
        gi_wp2_with fail
        refine ⟨trivial, fun h => (by cases h), ?_⟩
        refine (callsIn_wide.2 HO).mono ?_
        rintro e w2 ⟨V2, rfl, hG2, b2⟩
        have hG2 : Grid w2 Bs V2 (behB seq (2 ^ S) bs (k + 1)) := hG2.less (by omega)
        have J2 := hJn _ _ _ Jk b2
        have q2 := q2.after b2
        have hT2 := hTk.below b2 hTk.lt
        have z2 := Nat.le_trans hzk b2.size
        obtain ⟨fn, tmps, assign, body, hy, hR⟩ := HY.out (k + 1) V2 w2 (by omega) J2 hG2 z2
        have hy : (Instr.yield l #[.int .i64 ((k : Int) + 1), V2]).run Tryd.prog w2 = .ok (.round l fn tmps assign body) w2 := hy
        clear HO hGk hTk hzk Jk b2 cq
        gi_wp2_with fail
        refine ⟨fun h => (by cases h), ?_⟩
        refine hR.mono ?_
        rintro e W3 ⟨-, (⟨rfl, J3, k3⟩ | ⟨rfl, x3⟩)⟩
        · have q3 := k3.blk q2 s2
          have hT3 := Po.TabK.only hT2 k3.only s3
          have hG3 := k3.grid hG2
          have z3 := Nat.le_trans z2 k3.size
          clear hR hy q2 hT2 hG2 z2 k3 J2
          gi_wp2_with fail
          go_roundw
          case rel => exact ⟨k + 1, by omega, by go_num, J3, hG3, q3, hT3, z3⟩
          case measure => simp [intOf]; omega
        · gi_wp2_with fail
          exact bodyPost_ret (results_none rfl _ _ _) rfl ⟨⟨_, rfl⟩, .inr ⟨_, x3⟩⟩
      · obtain rfl : k = T := by omega
        gi_wp2_with fail
        go_end0
        exact ⟨⟨_, rfl⟩, .inl ⟨_, HNO.out, Jk⟩⟩
  · gi_wp2_with fail
    exact bodyPost_ret (results_none rfl _ _ _) rfl ⟨⟨_, rfl⟩, .inr ⟨_, x1⟩⟩
end Go.Proofs.YtlinmcgmkpkpaaaDoor.Pi
