/-
  Package pipe's mapped by its contract: all blocks, with the records that the program makes of the pairs, each sorted.
-/
import Derived.Test.YtlinmcgmkpkpaaaDoorB14
import Derived.Test.YtlinmcgmkpkpaaaDoorB17
import Derived.Test.YtlinmcgmkpkpaaaDoorB18
import Derived.Test.YtlinmcgmkpkpaaaDoorB9
import Derived.Test.YtlinmcgmkpkpaaaDoorB10
set_option linter.unusedVariables false
namespace Go.Proofs.YtlinmcgmkpkpaaaDoor.Pi
open Go.RowKit Go.Shelf Mem Held Go.Proofs.YtlinmcgmkpkpaaaDoor.Range Ct Rc Rs Sl Vm Sp Mg
attribute [local go_sem] Oper.semAt_some
attribute [local irreducible] wpList wpListIn Calls
theorem zero_pair8 : (Tryd.prog.info? 39).bind (·.zero) = some (.agg #[.int .i64 0, .int .i64 0]) := by kernel_rfl
theorem size_pair8 : (Tryd.prog.info? 39).map (·.size) = some 2 := by kernel_rfl
theorem lst_mid {α : Type} {k : St α} {w : World} {B n c : Nat} {g off : Nat} {xs : List α} (h : Lst k w B (some ⟨g, off, none⟩) n xs) {l m : Nat} (hm : l + m ≤ n) (hn : 0 < n) : Lst k w B (some ⟨g, off + l * k.s, none⟩) m ((xs.drop l).take m) := by
  obtain ⟨b, o, e, hb, hr⟩ := h.2.2 hn
  injection e with e
  injection e with e1 e2
  subst e1
  subst e2
  refine lst_take (n := n - l) (xs := xs.drop l) ⟨by rw [List.length_drop, h.1], fun x hx => h.2.1 x (List.mem_of_mem_drop hx), fun _ => ⟨g, off + l * k.s, rfl, hb, fun j v hv => ?_⟩⟩ m (by omega)
  have hf := flat_drop (k := k) xs l (by have := h.1; omega)
  rw [← hf, List.getElem?_drop] at hv
  have := hr (l * k.s + j) v hv
  rwa [← Nat.add_assoc] at this
theorem chunk_range (B M : Nat) (l : List R) : chunk B M l = (List.range M).map fun k => (l.drop (k * B)).take B := by
  refine ext_blk (by rw [chunk_length, List.length_map, List.length_range]) fun i hi => ?_
  rw [chunk_length] at hi
  rw [chunk_get B M l i hi, List.getD_eq_getElem?_getD, List.getElem?_map, List.getElem?_range hi]
  rfl
structure NM (w : World) (vb b13 g L : Nat) (xs : List R) (V : Value) (vs : List (Option Addr × Nat × Nat)) (bs : List (List R)) (W : World) : Prop where
  var : Blk W b13 45 #[V]
  own : OwnL kS 48 W vb V vs
  tb : Tb W vb vs bs
  lst : Lst kRec W vb (some ⟨g, 0, none⟩) L xs
  below : Below w.heap.size w W
section
variable {w : World} {vb b13 g L : Nat} {xs : List R} {V : Value} {vs : List (Option Addr × Nat × Nat)} {bs : List (List R)} {W W' : World}
theorem NM.far (h : NM w vb b13 g L xs V vs bs W) (hv : w.heap.size ≤ vb) (hv2 : vb ≤ W.heap.size) {row : Option Nat} (hg : W.grownBy W' row) (hr : ∀ r, row = some r → vb ≤ r ∧ NoL TL W r) (h13 : some b13 ≠ row) : NM w vb b13 g L xs V vs bs W' :=
  ⟨h.var.grown hg h13, own_far h.own (.inl rfl) hg (fun r e => (hr r e).2), ⟨h.tb.1, fun i hi => own_far (h.tb.2 i hi) (.inr rfl) hg (fun r e => (hr r e).2)⟩, h.lst.below ((Below.refl vb W).grown hg hv2 (fun r e => (hr r e).1)), h.below.grown hg h.below.size (fun r e => Nat.le_trans hv (hr r e).1)⟩
theorem NM.after (h : NM w vb b13 g L xs V vs bs W) (hv : w.heap.size ≤ vb) (hv2 : vb ≤ W.heap.size) (hb : Below W.heap.size W W') : NM w vb b13 g L xs V vs bs W' :=
  h.far hv hv2 (grown_of_below hb none) (fun r e => by cases e) (by simp)
theorem NM.off (h : NM w vb b13 g L xs V vs bs W) (hv : w.heap.size ≤ vb) (hv2 : vb ≤ W.heap.size) {row : Option Nat} (hg : W.grownBy W' row) (hr : ∀ r, row = some r → vb ≤ r ∧ ∃ o : Obj, W.heap[r]? = some o ∧ o.isCells = false) : NM w vb b13 g L xs V vs bs W' :=
  h.far hv hv2 hg (fun r e => by obtain ⟨h1, o, ho, hc⟩ := hr r e; exact ⟨h1, nol_off ho hc⟩) (fun e => by
    obtain ⟨_, o, ho, hc⟩ := hr _ e.symm
    exact blk_ne h.var ho hc rfl)
end
set_option maxRecDepth 100000 in
set_option maxHeartbeats 8000000 in
theorem mapped_ok (B k b S : Nat) (wk : Int) (A1 A2 A3 A : Option Addr) (n1 c1 n2 c2 n3 c3 n c : Nat) (m f fi : List O) (ps : List (Int × Int)) (w : World) (h1 : Lst kO w B A1 n1 m) (h2 : Lst kO w B A2 n2 f) (h3 : Lst kO w B A3 n3 fi) (hp : Lst kP w B A n ps) (hB : B ≤ w.heap.size) (hC : checkB (k : Int) m f fi = true) (hR : rightB (n : Int) (k : Int) (b : Int) wk = true) (hM : allI (n : Int) (k : Int) (b : Int) = ((2 ^ S : Nat) : Int)) (hS : S ≤ 5) (hL : n * k < 2 ^ S * b) :
    Calls Tryd.prog 45 #[.agg #[.int .i64 (k : Int), .slice A1 n1 c1, .slice A2 n2 c2, .slice A3 n3 c3], .agg #[.int .i64 (n : Int), .int .i64 (k : Int), .int .i64 (b : Int), .int .i64 wk], .slice A n c] w fun e w' => ∃ V, e = .returned V ∧ Grid w' w.heap.size V (mapB (k : Int) m f fi ps b (2 ^ S)) ∧ Below w.heap.size w w' := by
  obtain ⟨⟨hr1, hr⟩, ⟨hk1, hk⟩, ⟨hb1, hb⟩, _, _⟩ := right_says hR
  have hlen := hp.1
  have HBK := Lib.hid (fun W => blocks_ok (n : Int) (k : Int) (b : Int) wk W hR)
  rw [hM] at HBK
  have hM32 : 2 ^ S ≤ 32 := Nat.pow_le_pow_right (n := 2) (i := S) (by omega) hS
  have hPL : (padded (k : Int) m f fi ps (2 ^ S * b)).length = 2 ^ S * b := padded_length hC ps (by rw [hlen]; omega)
  have HPW := Lib.hid (padded_wf (K := (k : Int)) (f := f) (e := fi) h1.2.1 hp.2.1 (by rw [hlen]; omega) (2 ^ S * b))
  have HPD := Lib.hid (show padded (k : Int) m f fi ps (2 ^ S * b) = flatTo (k : Int) m f fi ps n ++ List.replicate (2 ^ S * b - n * k) RD by rw [padded, flatIn, hlen, flatTo_length hC])
  have HMB := Lib.hid (show mapB (k : Int) m f fi ps b (2 ^ S) = (List.range (2 ^ S)).map fun x => sortR true (((padded (k : Int) m f fi ps (2 ^ S * b)).drop (x * b)).take b) by rw [mapB, chunk_range, List.map_map]; rfl)
  have HFL := Lib.hid (fun i => flatTo_length hC ps i)
  have HFS := Lib.hid (fun i => flatTo_succ (k : Int) m f fi ps i)
  have HML := Lib.hid (fun n key val => mapR_len hC n key val)
  have HMW := Lib.hid (fun (i : Nat) (hi : i ≤ 64) key val hk hv => mapR_wf (K := (k : Int)) (f := f) (e := fi) (n := (i : Int)) (key := key) (val := val) h1.2.1 (Sp.nat_wf (by omega)) hk hv)
  have HMP := Lib.hid (fun (i : Nat) (hi : i ≤ 64) (key val : Int) (W : World) hk hv h1 h2 h3 hB => map_ok B k A1 A2 A3 n1 c1 n2 c2 n3 c3 m f fi (i : Int) key val W (Sp.nat_wf (by omega)) hk hv h1 h2 h3 hB hC)
  rw [HMB.out]
  generalize padded (k : Int) m f fi ps (2 ^ S * b) = xs at *
  generalize 2 ^ S = M at *
  obtain ⟨L, hLL⟩ : ∃ L, M * b = L := ⟨_, rfl⟩
  have HLL := Lib.hid hLL
  have hL256 : L ≤ 32 * 8 := by rw [← hLL]; exact Nat.mul_le_mul hM32 (by omega)
  rw [hLL] at hPL HPD hL
  have HPL := Lib.hid hPL
  have hb1 : 1 ≤ b := by omega
  have hb8 : b ≤ 8 := by omega
  have hk4 : k ≤ 4 := by omega
  have hn64 : n ≤ 64 := by omega
  have HL0 := Lib.hid hL
  clear hM hC hR hlen HMB hPL hLL hr1 hr hk1 hk hb hL
  refine (callsIn_wide (n := 3)).1 ?_
  refine callsIn_of_wp_marks Tryd.func45 rfl trivial ?_ rfl
  simp only [Tryd.ntmps45, List.size_toArray, List.length_cons, List.length_nil, Nat.reduceAdd, Nat.reduceSub, Array.replicate_succ, Array.replicate_zero, List.push_toArray, List.append_toArray, List.nil_append, List.cons_append]
  refine wpIn_wide.2 ?_
  go_wp2_with (first
    | (refine wpList_box_blk (w := w) rfl 26 _ rfl #[.int .i64 (k : Int), .slice A1 n1 c1, .slice A2 n2 c2, .slice A3 n3 c3] rfl ?_; intro u1 qa g1 z1)
    | (refine wpList_box_blk (w := u1) rfl 28 _ rfl #[.int .i64 (n : Int), .int .i64 (k : Int), .int .i64 (b : Int), .int .i64 wk] rfl ?_; intro u2 qb g2 z2))
  have qa := qa.grown g2 (by simp)
  have b2 : Below w.heap.size w u2 := ((Below.refl _ w).grown g1 (Nat.le_refl _) (by simp)).grown g2 g1.size (by simp)
  have hab : w.heap.size ≤ u1.heap.size := g1.size
  clear g1 z1 g2 z2
  generalize u1.heap.size = b4 at *
  go_wp2_with fail
  go_loopw [7, 17] (fun va iv wr => ∃ i : Nat, i ≤ n ∧ iv = .int .i64 i ∧ OwnL kRec 51 wr w.heap.size va (flatTo (k : Int) m f fi ps i) ∧ Blk wr w.heap.size 26 #[.int .i64 (k : Int), .slice A1 n1 c1, .slice A2 n2 c2, .slice A3 n3 c3] ∧ Blk wr b4 28 #[.int .i64 (n : Int), .int .i64 (k : Int), .int .i64 (b : Int), .int .i64 wk] ∧ Below w.heap.size w wr) (fun _ i _ => n - (intOf i).toNat)
  case atStart => exact ⟨0, by omega, rfl, OwnL.nil _ _ _ _, qa, qb, b2⟩
  case round =>
    clear qa qb b2
    obtain ⟨i, hi, rfl, ho, qa, qb, hst⟩ := hrel
    by_cases hlt : i < n
    · have kp := hp.below (hst.mono hB)
      obtain ⟨bq, off, rfl, hbq, hx⟩ := kp.at_ hlt
      have hwf := kp.wf_at hlt
      have HNX := Lib.hid (HFS.out i)
      have HF0 := Lib.hid (HFL.out i)
      have hx : wr.rangeAt bq (off + i * 2) [.int .i64 (ps.getD i (0, 0)).1, .int .i64 (ps.getD i (0, 0)).2] := hx
      obtain ⟨hw1, hw2⟩ : (Lit.int .i64 (ps.getD i (0, 0)).1).wf = true ∧ (Lit.int .i64 (ps.getD i (0, 0)).2).wf = true := hwf
      generalize (ps.getD i (0, 0)).1 = key at hx hw1 HNX
      generalize (ps.getD i (0, 0)).2 = val at hx hw2 HNX
      have hlt' : (i : Int) < (n : Int) := by omega
      have hik : i * k ≤ 64 * 4 := Nat.mul_le_mul (by omega) hk4
      generalize flatTo (k : Int) m f fi ps i = fl at ho HNX HF0
      have hbw : bq < wr.heap.size := Nat.lt_of_lt_of_le hbq (Nat.le_trans hB hst.size)
      clear kp
      go_wp2_with (first
        | (refine wpList_run (w := wr) rfl (v := .pointer (some ⟨bq, off + i * 2, none⟩)) (Held.y_addr (S := fun _ => True) rfl rfl rfl (run_addr_of (P := Tryd.prog) 29 39 bq off n c i 2 .i64 Tryd.underlying29 size_pair8 hlt) _ trivial) ?_)
        | (refine wpList_run (w := wr) rfl (v := .agg #[.int .i64 key, .int .i64 val]) (y_load_range (S := fun W => W = wr) (n := 2) (cs := [.int .i64 key, .int .i64 val]) rfl rfl Tryd.underlying39 rfl size_pair8 rfl (fun W hW => by rw [hW]; exact hx) _ rfl) ?_)
        | (refine wpList_alloc_blk (w := wr) rfl 39 rfl _ zero_pair8 ?_; intro w2 q2 g2 z2)
        | (refine wpList_store_blk (w := w2) rfl 39 _ _ rfl wr.heap.size 2 rfl 39 _ #[.int .i64 key, .int .i64 val] rfl q2 size_pair8 rfl rfl (by kernel_rfl) ?_; intro w3 q3 g3 z3; have b3 : Below wr.heap.size wr w3 := ((Below.refl _ wr).grown g2 (Nat.le_refl _) (by simp)).grown g3 g2.size (fun r e => by cases e; exact Nat.le_refl _); have qa3 := qa.after b3)
        | (refine wpList_load_blk (w := w3) rfl 26 _ rfl w.heap.size 4 rfl 26 _ qa3 _ Tryd.underlying26 rfl info_prog rfl ?_)
        | (refine wpList_load_blk (w := w3) rfl 39 _ rfl wr.heap.size 2 rfl 39 _ q3 _ Tryd.underlying39 rfl size_pair8 rfl ?_))
      have s0 := hst.size
      have b03 := hst.trans (b3.mono hst.size)
      refine (HMP.out i (by omega) key val w3 hw1 hw2 (h1.below (b03.mono hB)) (h2.below (b03.mono hB)) (h3.below (b03.mono hB)) (Nat.le_trans hB b03.size)).mono ?_
      rintro e w4 ⟨g, rfl, q4, hg, b4w⟩
      have l4 : Lst kRec w4 w4.heap.size (some ⟨g, 0, none⟩) k (mapR (k : Int) m f fi (i : Int) key val) := lst_whole (k := kRec) q4 (HML.out _ _ _) (HMW.out i (by omega) key val hw1 hw2)
      have b34 := b3.trans (b4w.mono b3.size)
      have ho4 := OwnL.below ho b34
      have qa4 := qa.after b34
      have qb4 := qb.after b34
      have b04 := hst.trans (b34.mono hst.size)
      clear q4 qa3 q3 q2 g2 g3 z2 z3 hx ho qa qb
      go_wp2_with (at_builtin; refine wpList_append_all (k := kRec) (w := w4) rfl _ _ 48 51 rfl Tryd.underlying48 _ 32 info_kRec rfl w.heap.size w4.heap.size k k (some ⟨g, 0, none⟩) u7 fl (mapR (k : Int) m f fi (i : Int) key val) rfl rfl ho4 l4 (by rw [HF0.out]; omega) (by omega) b04.size ?_; intro v6 w6 o6 g6 m6)
      rw [← HNX.out] at o6
      have qa6 := qa4.grown g6 (fun e => OwnL.ne_blk ho4 qa4 (by decide) e.symm)
      have qb6 := qb4.grown g6 (fun e => OwnL.ne_blk ho4 qb4 (by decide) e.symm)
      have b6 : Below w.heap.size w w6 := b04.grown g6 b04.size (fun r e => (OwnL.lt ho4 r e).1)
      go_roundw
      case rel => exact ⟨i + 1, by omega, by go_num, o6, qa6, qb6, b6⟩
      case measure => simp [intOf]; omega
    · obtain rfl : i = n := by omega
      have HF0 := Lib.hid (HFL.out i)
      generalize flatTo (k : Int) m f fi ps i = fl at *
      obtain ⟨Af, q, cf, rfl, hq, _⟩ := OwnL.form2 ho
      have HQ := Lib.hid (show i * k = q by rw [← HF0.out]; exact hq.out)
      rw [HQ.out] at HPD HL0 HF0
      have hqL : q < L := HL0.out
      clear hq HFS HFL HML HMW HMP hp
      go_wp2_with (refine wpList_load_blk (w := wr) rfl 28 _ rfl b4 4 rfl 28 _ qb _ Tryd.underlying28 rfl size_params rfl ?_)
      refine (HBK.out wr).mono ?_
      rintro e w1 ⟨rfl, b1⟩
      have ho := OwnL.below ho b1
      have qb := qb.after b1
      have b1 := hst.trans (b1.mono hst.size)
      clear qa hst HBK
      have HMb := Lib.hid (show IntKind.i64.wrap ((M : Int) * (b : Int)) = (L : Int) by rw [← Int.natCast_mul, HLL.out, IntKind.wrap_i64]; omega)
      have HSb := Lib.hid (show IntKind.i64.wrap ((L : Int) - (q : Int)) = ((L - q : Nat) : Int) by rw [IntKind.wrap_i64]; omega)
      go_wp2_with fail
      refine wp_mono (Q := fun e a' w' => e = .normal ∧ ∃ p35 gd : Nat, a' = { tmps := #[.agg #[.int .i64 (k : Int), .slice A1 n1 c1, .slice A2 n2 c2, .slice A3 n3 c3], .agg #[.int .i64 (i : Int), .int .i64 (k : Int), .int .i64 (b : Int), .int .i64 wk], .slice A i c, .pointer (some ⟨w.heap.size, 0, none⟩), .pointer (some ⟨b4, 0, none⟩), undef, .slice none 0 0, .slice Af q cf, u8, u9, .int .i64 (inI (i : Int) (b : Int)), .int .i64 (M : Int), .slice (some ⟨gd, 0, none⟩) (L - q) (L - q), undef, undef, .slice A i c, .int .i64 (i : Int), .int .i64 (i : Int), .bool false, u19, u20, u21, u22, u23, u24, u25, u26, u27, u28, .tuple #[.int .i64 (inI (i : Int) (b : Int)), .int .i64 (M : Int)], .agg #[.int .i64 (i : Int), .int .i64 (k : Int), .int .i64 (b : Int), .int .i64 wk], .tuple #[.int .i64 (inI (i : Int) (b : Int)), .int .i64 (M : Int)], .int .i64 (inI (i : Int) (b : Int)), .int .i64 (M : Int), .agg #[.bool true, .int .i64 0, .int .i64 0, .int .i64 0], .slice (some ⟨p35, 0, none⟩) 1 1, .int .i64 (M : Int), .pointer (some ⟨b4, 2, none⟩), .int .i64 (b : Int), .int .i64 (L : Int), .slice Af q cf, .int .i64 (q : Int), .int .i64 ((L - q : Nat) : Int), .slice (some ⟨gd, 0, none⟩) (L - q) (L - q), undef, undef, undef, undef, undef, undef, undef, undef, undef, undef, undef, undef, undef], defers := [] } ∧ Lst kRec w' w'.heap.size (some ⟨gd, 0, none⟩) (L - q) (List.replicate (L - q) RD) ∧ Below w1.heap.size w1 w') ?_ ?_
      · refine wp_region_held (S := fun X => Below w1.heap.size w1 X) (by kernel_rfl) ?_
        change wpAnyH _ _ _ _ _ _ _ _ w1.drew
        have c0_0 := (Below.refl w1.heap.size w1).drew
        refine Held.take (v := .int .i64 (M : Int)) 2 (some 36) rfl rfl (by kernel_rfl) (by kernel_rfl) (by kernel_rfl) (fun _ _ _ h => by cases h.1) rfl (Held.y_move rfl rfl) c0_0 ?_
        simp only [Act.put, Z1, Z2, Z3]
        refine Held.take (v := .pointer (some ⟨b4, 2, none⟩)) 3 (some 37) rfl rfl (by kernel_rfl) (by kernel_rfl) (by kernel_rfl) (fun _ _ _ h => by cases h.1) rfl (Held.y_field (k := 2) (s := 0) rfl rfl Tryd.underlying28 rfl (by kernel_rfl) rfl) c0_0 ?_
        simp only [Act.put, Z1, Z2, Z3]
        refine Held.take (v := .int .i64 (b : Int)) 4 (some 38) rfl rfl (by kernel_rfl) (by kernel_rfl) (by kernel_rfl) (fun _ _ _ h => by cases h.1) rfl (Held.y_load rfl rfl (by kernel_rfl) (fun W1 hW => (qb.after hW).cell (i := 2) rfl)) c0_0 ?_
        simp only [Act.put, Z1, Z2, Z3]
        refine Held.take (v := .int .i64 (L : Int)) 5 (some 39) rfl rfl (by kernel_rfl) (by kernel_rfl) (by kernel_rfl) (fun _ _ _ h => by cases h.1) rfl (Held.y_int rfl rfl rfl (Held.run_mul 3 .i64 HMb.out)) c0_0 ?_
        simp only [Act.put, Z1, Z2, Z3]
        refine Held.take (v := .slice Af q cf) 6 (some 40) rfl rfl (by kernel_rfl) (by kernel_rfl) (by kernel_rfl) (fun _ _ _ h => by cases h.1) rfl (Held.y_move rfl rfl) c0_0 ?_
        simp only [Act.put, Z1, Z2, Z3]
        refine Held.take (v := .int .i64 (q : Int)) 7 (some 41) rfl rfl (by kernel_rfl) (by kernel_rfl) (by kernel_rfl) (fun _ _ _ h => by cases h.1) rfl (Held.y_len rfl rfl Tryd.underlying48) c0_0 ?_
        simp only [Act.put, Z1, Z2, Z3]
        refine Held.take (v := .int .i64 ((L - q : Nat) : Int)) 8 (some 42) rfl rfl (by kernel_rfl) (by kernel_rfl) (by kernel_rfl) (fun _ _ _ h => by cases h.1) rfl (Held.y_int rfl rfl rfl (Held.run_sub 3 .i64 HSb.out)) c0_0 ?_
        simp only [Act.put, Z1, Z2, Z3]
        refine Held.one 0 (by kernel_rfl) ?_
        refine Held.op_call 0 (some 34) 56 #[] rfl rfl rfl rfl (enters_of Tryd.func56 (by kernel_rfl) rfl) (by simp) (dead_any _) ?_
        rintro e w2 ⟨rfl, d2⟩
        have c0_1 := c0_0.trans (d2.mono c0_0.size)
        refine ⟨_, rfl, c0_1, ?_⟩
        simp only [Act.put, Z1, Z2, Z3]
        refine Held.one 1 (by kernel_rfl) ?_
        refine op_build_lst (k := kRec) 1 (some 35) 48 51 1 _ 32 [RD] rfl rfl rfl rfl Tryd.underlying48 info_kRec rfl rfl (by kernel_rfl) (by omega) (by decide) ?_
        intro p35 w3 q35 d3 h35
        have c0_2 := c0_1.trans (d3.mono c0_1.size)
        refine ⟨c0_2, ?_⟩
        simp only [Act.put, Z1, Z2, Z3]
        have lq : Lst kR w3 w3.heap.size (some ⟨p35, 0, none⟩) 1 [RD] := lst_whole (k := kRec) q35 rfl (fun y hy => by rw [List.mem_singleton.1 hy]; exact ⟨rfl, rfl, rfl⟩)
        refine Held.one 9 (by kernel_rfl) ?_
        refine Held.op_call 9 (some 43) 55 #[.slice (some ⟨p35, 0, none⟩) 1 1, .int .i64 ((L - q : Nat) : Int)] rfl rfl rfl rfl (enters_of Tryd.func55 (by kernel_rfl) rfl) (by simp [Act.eval])
          (repeat_big w3.heap.size (some ⟨p35, 0, none⟩) 1 (L - q) RD w3 lq (Nat.le_refl _) (by omega) (by omega)) ?_
        rintro e w5 ⟨gd, rfl, qd, hgd, d5⟩
        have c0_3 := c0_2.trans (d5.mono c0_2.size)
        refine ⟨_, rfl, c0_3, ?_⟩
        simp only [Act.put, Z1, Z2, Z3]
        refine Held.take (v := .slice (some ⟨gd, 0, none⟩) (L - q) (L - q)) 10 (some 12) rfl rfl (by kernel_rfl) (by kernel_rfl) (by kernel_rfl) (fun _ _ _ h => by cases h.1) rfl (Held.y_assign rfl rfl) c0_3 ?_
        simp only [Act.put, Z1, Z2, Z3]
        refine wpAnyH_done (by kernel_rfl) ?_ _
        exact ⟨rfl, p35, gd, rfl, lst_whole (k := kRec) qd (by simp) (fun y hy => by rw [List.eq_of_mem_replicate hy]; exact ⟨rfl, rfl, rfl⟩), c0_3⟩
      rintro e a' w5 ⟨rfl, p35, gd, rfl, ld, c0_3⟩
      have ho := OwnL.below ho c0_3
      have qb := qb.after c0_3
      have b5 := b1.trans (c0_3.mono b1.size)
      clear c0_3 b1 HMb HSb
      go_wp2_with (refine Held.wpList_alloc_cell (w := w5) rfl 45 rfl (.slice none 0 0) (by kernel_rfl) rfl ?_; intro w6 q13 g6 z6)
      have l6 : w5.heap.size < w6.heap.size := by have := z6.out; omega
      have q13 : Blk w6 w5.heap.size 45 #[.slice none 0 0] := q13
      have ho := own_new ho g6 (fun r e => by cases e)
      have qb := qb.grown g6 (by simp)
      have b6 := b5.grown g6 b5.size (by simp)
      have ld6 := (ld.below ((Below.refl w5.heap.size w5).grown g6 (Nat.le_refl _) (by simp))).more g6.size
      clear ld
      have hw13 : w.heap.size ≤ w5.heap.size := b5.size
      clear g6 z6 b5
      generalize w5.heap.size = b13 at *
      go_wp2_with fail
      refine wp_mono (Q := fun e a' v => e = .normal ∧ ∃ g c7 bl bn : Nat, a' = { tmps := #[.agg #[.int .i64 (k : Int), .slice A1 n1 c1, .slice A2 n2 c2, .slice A3 n3 c3], .agg #[.int .i64 (i : Int), .int .i64 (k : Int), .int .i64 (b : Int), .int .i64 wk], .slice A i c, .pointer (some ⟨w.heap.size, 0, none⟩), .pointer (some ⟨b4, 0, none⟩), undef, .slice none 0 0, .slice Af q cf, u8, u9, .int .i64 (inI (i : Int) (b : Int)), .int .i64 (M : Int), .slice (some ⟨gd, 0, none⟩) (L - q) (L - q), .pointer (some ⟨b13, 0, none⟩), undef, .slice A i c, .int .i64 (i : Int), .int .i64 (i : Int), .bool false, u19, u20, u21, u22, u23, u24, u25, u26, u27, u28, .tuple #[.int .i64 (inI (i : Int) (b : Int)), .int .i64 (M : Int)], .agg #[.int .i64 (i : Int), .int .i64 (k : Int), .int .i64 (b : Int), .int .i64 wk], .tuple #[.int .i64 (inI (i : Int) (b : Int)), .int .i64 (M : Int)], .int .i64 (inI (i : Int) (b : Int)), .int .i64 (M : Int), .agg #[.bool true, .int .i64 0, .int .i64 0, .int .i64 0], .slice (some ⟨p35, 0, none⟩) 1 1, .int .i64 (M : Int), .pointer (some ⟨b4, 2, none⟩), .int .i64 (b : Int), .int .i64 (L : Int), .slice Af q cf, .int .i64 (q : Int), .int .i64 ((L - q : Nat) : Int), .slice (some ⟨gd, 0, none⟩) (L - q) (L - q), .slice Af q cf, .slice (some ⟨gd, 0, none⟩) (L - q) (L - q), .slice (some ⟨g, 0, none⟩) L c7, .pointer (some ⟨b4, 2, none⟩), .int .i64 (b : Int), .func (.func 69) #[] #[.pointer (some ⟨bl, 0, none⟩), .pointer (some ⟨bn, 0, none⟩)], undef, undef, undef, undef, undef, undef, undef], defers := [] } ∧ L ≤ c7 ∧ NM w v.heap.size b13 g L xs (.slice none 0 0) [] [] v ∧ Blk v bl 48 #[.slice (some ⟨g, 0, none⟩) L c7] ∧ Blk v bn 3 #[.int .i64 (b : Int)] ∧ b13 < bl ∧ b13 < bn ∧ g ≠ b13) ?_ ?_
      · refine wp_region_held (S := fun X => Blk X b4 28 #[.int .i64 (i : Int), .int .i64 (k : Int), .int .i64 (b : Int), .int .i64 wk]) (by kernel_rfl) ?_
        change wpAnyH _ _ _ _ _ _ _ _ w6.drew
        have d0 : Below w6.heap.size w6 w6.drew := (Below.refl w6.heap.size w6).drew
        have qd0 := qb.after d0
        refine Held.take (v := .slice Af q cf) 0 (some 44) rfl rfl (by kernel_rfl) (by kernel_rfl) (by kernel_rfl) (fun _ _ _ h => by cases h.1) rfl (Held.y_move rfl rfl) qd0 ?_
        simp only [Act.put, Z1, Z2, Z3]
        refine Held.take (v := .slice (some ⟨gd, 0, none⟩) (L - q) (L - q)) 1 (some 45) rfl rfl (by kernel_rfl) (by kernel_rfl) (by kernel_rfl) (fun _ _ _ h => by cases h.1) rfl (Held.y_move rfl rfl) qd0 ?_
        simp only [Act.put, Z1, Z2, Z3]
        refine Held.take (v := .pointer (some ⟨b4, 2, none⟩)) 3 (some 47) rfl rfl (by kernel_rfl) (by kernel_rfl) (by kernel_rfl) (fun _ _ _ h => by cases h.1) rfl (Held.y_field (k := 2) (s := 0) rfl rfl Tryd.underlying28 rfl (by kernel_rfl) rfl) qd0 ?_
        simp only [Act.put, Z1, Z2, Z3]
        refine Held.take (v := .int .i64 (b : Int)) 4 (some 48) rfl rfl (by kernel_rfl) (by kernel_rfl) (by kernel_rfl) (fun _ _ _ h => by cases h.1) rfl (Held.y_load rfl rfl (by kernel_rfl) (fun W1 hW => hW.cell (i := 2) rfl)) qd0 ?_
        simp only [Act.put, Z1, Z2, Z3]
        have hod := OwnL.below ho d0
        have ldd := (ld6.below d0).more d0.size
        have s6 : w6.heap.size ≤ w6.drew.heap.size := d0.size
        refine Held.one 2 (by kernel_rfl) ?_
        refine op_append_all (k := kRec) 2 (some 46) 48 51 rfl rfl rfl rfl Tryd.underlying48 _ 32 info_kRec rfl w.heap.size w6.drew.heap.size (L - q) (L - q) (some ⟨gd, 0, none⟩) (.slice Af q cf) fl (List.replicate (L - q) RD) rfl rfl hod ldd (by rw [HF0.out]; omega) (by omega) (Nat.le_trans b6.size d0.size) ?_
        intro v7 w7 o7 g7 m7
        have qb7 := qd0.grown g7 (fun e => OwnL.ne_blk hod qd0 (by decide) e.symm)
        have q137 := (q13.after d0).grown g7 (fun e => OwnL.ne_blk hod (q13.after d0) (by decide) e.symm)
        have b7 : Below w.heap.size w w7 := (b6.trans (d0.mono b6.size)).grown g7 (Nat.le_trans b6.size d0.size) (fun r e => (OwnL.lt hod r e).1)
        have s7 := g7.size
        rw [← HPD.out] at o7
        obtain ⟨A7, n7, c7, rfl, hn7, hc7, _⟩ := OwnL.form2 o7
        obtain rfl : L = n7 := HPL.out.symm.trans hn7.out
        refine ⟨qb7, ?_⟩
        simp only [Act.put, Z1, Z2, Z3]
        have hL0 : 0 < L := by omega
        obtain ⟨g, rfl, hg0, hgw, _⟩ := own_at0 o7 hL0
        refine Held.one 5 (by kernel_rfl) ?_
        refine Held.op_call 5 (some 49) 57 #[.slice (some ⟨g, 0, none⟩) L c7, .int .i64 (b : Int)] rfl rfl rfl rfl (enters_of Tryd.func57 (by kernel_rfl) rfl) (by simp [Act.eval])
          (chunk_any (some ⟨g, 0, none⟩) L c7 b w7 hb1) ?_
        rintro e v ⟨bl, bn, rfl, qn, qr, hbn, hbr, bv⟩
        refine ⟨_, rfl, qb7.after bv, ?_⟩
        simp only [Act.put, Z1, Z2, Z3]
        refine wpAnyH_done (by kernel_rfl) ?_ _
        have lx := ((OwnL.lst o7 HPW.out).below bv).more bv.size
        exact ⟨rfl, g, c7, bl, bn, rfl, hc7, ⟨q137.after bv, OwnL.nil _ _ _ _, Tb.nil _ _, lx, b7.trans (bv.mono b7.size)⟩, qn, qr, by omega, by omega, fun e => OwnL.ne_blk o7 q137 (by decide) (by rw [e]; rfl)⟩
      rintro e a' v ⟨rfl, g, c7, bl, bn, rfl, hc7, hN, qn, qr, h13l, h13n, hg13⟩
      have hwv := hN.below.size
      have h13v : b13 < v.heap.size := hN.var.lt
      have hlv : bl < v.heap.size := qn.lt
      have hnv : bn < v.heap.size := qr.lt
      have hit := fun N => chunk_give N bl bn g b M L c7 (fun x => x = b13 ∨ v.heap.size ≤ x) v qn qr hb1 HLL.out.symm (by omega) (by omega) (by omega) (fun e => by omega) (fun e => by omega)
      clear qn qr q13 qb ho ld6 b6
      obtain ⟨vb, hvb⟩ : ∃ vb, v.heap.size = vb := ⟨_, rfl⟩
      have HVB := Lib.hid hvb
      go_wp2_with fail
      refine (wpIn_wide (n := 3)).1 ?_
      refine wpIn_rangeFunc_give rfl (by omega) (gf := 69) (lb := #[.pointer (some ⟨bl, 0, none⟩), .pointer (some ⟨bn, 0, none⟩)]) rfl trivial (enters_of Tryd.func69 (by kernel_rfl) rfl)
        (hit _) (fun h k => h.trans k) (fun W l o o' hl ho hc _ => Only.put W l o o' ho hc) (Below.refl _ _) (fun x B W args hx => by cases hx; rfl)
        (fun pre W => ∃ V vs, NM w v.heap.size b13 g L xs V vs (pre.map fun x => sortR true ((xs.drop (x * b)).take b)) W ∧ v.heap.size ≤ W.heap.size) ?hi ⟨_, _, hN, Nat.le_refl _⟩
        (fun x a' pre W => (∃ V vs, NM w v.heap.size b13 g L xs V vs (pre.map fun x => sortR true ((xs.drop (x * b)).take b)) W ∧ v.heap.size ≤ W.heap.size) ∧ a' = { tmps := #[.agg #[.int .i64 (k : Int), .slice A1 n1 c1, .slice A2 n2 c2, .slice A3 n3 c3], .agg #[.int .i64 (i : Int), .int .i64 (k : Int), .int .i64 (b : Int), .int .i64 wk], .slice A i c, .pointer (some ⟨w.heap.size, 0, none⟩), .pointer (some ⟨b4, 0, none⟩), undef, .slice none 0 0, .slice Af q cf, u8, u9, .int .i64 (inI (i : Int) (b : Int)), .int .i64 (M : Int), .slice (some ⟨gd, 0, none⟩) (L - q) (L - q), .pointer (some ⟨b13, 0, none⟩), .slice (some ⟨g, x * b * 4, none⟩) b b, .slice A i c, .int .i64 (i : Int), .int .i64 (i : Int), .bool false, u19, u20, u21, u22, u23, u24, u25, u26, u27, u28, .tuple #[.int .i64 (inI (i : Int) (b : Int)), .int .i64 (M : Int)], .agg #[.int .i64 (i : Int), .int .i64 (k : Int), .int .i64 (b : Int), .int .i64 wk], .tuple #[.int .i64 (inI (i : Int) (b : Int)), .int .i64 (M : Int)], .int .i64 (inI (i : Int) (b : Int)), .int .i64 (M : Int), .agg #[.bool true, .int .i64 0, .int .i64 0, .int .i64 0], .slice (some ⟨p35, 0, none⟩) 1 1, .int .i64 (M : Int), .pointer (some ⟨b4, 2, none⟩), .int .i64 (b : Int), .int .i64 (L : Int), .slice Af q cf, .int .i64 (q : Int), .int .i64 ((L - q : Nat) : Int), .slice (some ⟨gd, 0, none⟩) (L - q) (L - q), .slice Af q cf, .slice (some ⟨gd, 0, none⟩) (L - q) (L - q), .slice (some ⟨g, 0, none⟩) L c7, .pointer (some ⟨b4, 2, none⟩), .int .i64 (b : Int), .func (.func 69) #[] #[.pointer (some ⟨bl, 0, none⟩), .pointer (some ⟨bn, 0, none⟩)], .slice (some ⟨g, x * b * 4, none⟩) b b, undef, undef, undef, undef, undef, undef], defers := [] }) ?ib ?assign ?body ?done
      case hi =>
        rintro pre W W' row ⟨V, vs, h, hs⟩ hg hr
        exact ⟨V, vs, h.off hwv hs hg hr, Nat.le_trans hs hg.size⟩
      case ib =>
        rintro x a' pre W W' row ⟨⟨V, vs, h, hs⟩, h3⟩ hg hr
        exact ⟨⟨V, vs, h.off hwv hs hg hr, Nat.le_trans hs hg.size⟩, h3⟩
      case assign =>
        rintro l pre x args W0 W K ⟨V, vs, h, hs⟩ hg rfl hpre hsz hK
        simp only [Held.zip_one, List.setIfInBounds_toArray, List.set_cons_zero, List.set_cons_succ]
        gi_wp2_with fail
        exact hK _ _ (KeepsOthers.refl _) (Only.refl _ _) ⟨⟨V, vs, h.far hwv hs hg (fun r e => by cases e) (by simp), Nat.le_trans hs hg.size⟩, rfl⟩
      case body =>
        rintro l pre x a' W ⟨⟨V, vs, H, hs⟩, rfl⟩ hpre hsz
        have hxM : x < M := by
          have : x ∈ List.range M := hpre.subset (by simp)
          exact List.mem_range.1 this
        have hpl : pre.length < M := by
          have := hpre.length_le
          simp at this
          omega
        have hvl : vs.length = pre.length := by rw [H.tb.1, List.length_map]
        have hxb : x * b + b ≤ L := by
          rw [← HLL.out]
          have := Nat.mul_le_mul_right b (show x + 1 ≤ M by omega)
          rwa [Nat.succ_mul] at this
        have HSN := Lib.hid (show ((pre ++ [x]).map fun x => sortR true ((xs.drop (x * b)).take b)) = (pre.map fun x => sortR true ((xs.drop (x * b)).take b)) ++ [sortR true ((xs.drop (x * b)).take b)] by rw [List.map_append]; rfl)
        rw [HSN.out]
        generalize (pre.map fun x => sortR true ((xs.drop (x * b)).take b)) = ds at H
        have lx := lst_mid (c := c7) H.lst (l := x * b) (m := b) hxb (by omega)
        rw [Nat.zero_add] at lx
        have lx : Lst kRec W v.heap.size (some ⟨g, x * b * 4, none⟩) b ((xs.drop (x * b)).take b) := lx
        have HSL := Lib.hid (show (sortR true ((xs.drop (x * b)).take b)).length = b by rw [sortR_length]; exact lx.1)
        generalize ((xs.drop (x * b)).take b) = X at lx HSL
        clear HSN hpre
        gi_wp2_with fail
        refine Held.wpIn_region_barR (r := some l) (s := 5) (T := fun X => Blk X b13 45 #[V]) rfl (by kernel_rfl) (by kernel_rfl) (by intro a w h; exact h) ?_
        change wpAnyB _ _ _ _ _ _ _ _ _ W.drew
        have D := (Below.refl W.heap.size W).drew
        have T0 : Blk W.drew b13 45 #[V] := H.var
        refine Held.takeB (v := V) 0 (some 51) [5] rfl rfl (by kernel_rfl) (by kernel_rfl) (by kernel_rfl) (by kernel_rfl) (fun _ _ _ h => h) rfl (Held.y_load rfl rfl (by kernel_rfl) (fun X hX => hX.cell (i := 0) rfl)) T0 ?_
        simp only [Act.put, Z1, Z2, Z3]
        refine Held.takeB (v := .slice (some ⟨g, x * b * 4, none⟩) b b) 1 (some 52) [5] rfl rfl (by kernel_rfl) (by kernel_rfl) (by kernel_rfl) (by kernel_rfl) (fun _ _ _ h => h) rfl (Held.y_move rfl rfl) T0 ?_
        simp only [Act.put, Z1, Z2, Z3]
        refine Held.oneB 2 (by kernel_rfl) ?_
        refine Held.op_call 2 (some 53) 58 #[.slice (some ⟨g, x * b * 4, none⟩) b b, .bool true] rfl rfl rfl rfl (enters_of Tryd.func58 (by kernel_rfl) rfl) (by simp [Act.eval])
          (sort_any v.heap.size (some ⟨g, x * b * 4, none⟩) b b X true W.drew (lx.below (D.mono hs)) (Nat.le_trans hs D.size) (by omega)) ?_
        rintro e w1 ⟨y, rfl, o1, b1⟩
        have D1 := D.trans (b1.mono D.size)
        have H1 := H.after hwv hs D1
        have hs1 := Nat.le_trans hs D1.size
        have o1 := OwnL.less o1 (Nat.le_trans hs D.size)
        obtain ⟨A6, n6, c6, rfl, hn6, _⟩ := OwnL.form2 o1
        obtain rfl : b = n6 := HSL.out.symm.trans hn6.out
        refine ⟨_, rfl, fun _ => H1.var, ?_⟩
        simp only [Act.put, Z1, Z2, Z3]
        refine Held.oneB 3 (by kernel_rfl) ?_
        refine op_build_slot 3 (some 54) (A6, b, c6) rfl rfl rfl rfl rfl ?_
        intro p54 w2 l2 b2 h54
        have H2 := H1.after hwv hs1 b2
        have hs2 := Nat.le_trans hs1 b2.size
        have t2 := (H2.tb).snoc (p := (A6, b, c6)) (OwnL.below o1 b2)
        refine ⟨fun _ => H2.var, ?_⟩
        simp only [Act.put, Z1, Z2, Z3]
        refine Held.oneB 4 (by kernel_rfl) ?_
        refine op_append_all (k := kS) 4 (some 55) 45 48 rfl rfl rfl rfl Tryd.underlying45 _ 24 info_kS rfl v.heap.size w2.heap.size 1 1 (some ⟨p54, 0, none⟩) V vs [(A6, b, c6)] rfl rfl H2.own l2 (by omega) (by omega) hs2 ?_
        intro V3 w3 o3 g3 m3
        have t3 := t2.grown g3 (fun r e => own_cells H2.own e)
        have q3 := H2.var.grown g3 (fun e => OwnL.ne_blk H2.own H2.var (by decide) e.symm)
        have l3 := H2.lst
        have hlt3 : ∀ r, V.ownBlock = some r → v.heap.size ≤ r := fun r e => (OwnL.lt H2.own r e).1
        have bv3 : Below v.heap.size w2 w3 := (Below.refl v.heap.size w2).grown g3 hs2 hlt3
        have hs3 := Nat.le_trans hs2 g3.size
        have hk3 : KeepsOthers w2 w3 := KeepsOthers.of_grownBy g3 (fun j o e ho => by
          obtain ⟨cs, hc⟩ := own_cells H2.own e
          rw [hc] at ho
          injection ho with ho
          subst ho
          rfl)
        refine ⟨fun _ => q3, ?_⟩
        simp only [Act.put, Z1, Z2, Z3]
        refine Held.oneB 5 (by kernel_rfl) ?_
        refine op_store_cell 5 none 45 b13 0 45 _ V3 rfl rfl rfl rfl rfl rfl q3 (by simp) (by kernel_rfl) (by obtain ⟨A, n, c, rfl, _⟩ := OwnL.form2 o3; rfl) (by obtain ⟨A, n, c, rfl, _⟩ := OwnL.form2 o3; rfl) ?_
        intro w4 q4 g4
        refine ⟨(fun h => by cases h.symm.trans (show _ = true by kernel_rfl)), ?_⟩
        simp only [Act.put]
        refine doneB (by kernel_rfl) ?_ _
        have q4 : Blk w4 b13 45 #[V3] := q4
        have lw3 : b13 < w3.heap.size := q3.lt
        have bD : Below W.heap.size W w2 := D1.trans (b2.mono D1.size)
        refine ⟨(Held.others_of_new (grown_of_below bD none)).trans (hk3.trans (Held.others_of_grown q3 g4)), ?_, V3, _, ⟨q4, own_new o3 g4 (fun r e b' hb' => by cases e; have := (OwnL.lt o3 b' hb').1; omega), ⟨t3.1, fun j hj => own_new (t3.2 j hj) g4 (fun r e b' hb' => by cases e; have := (OwnL.lt (t3.2 j hj) b' hb').1; omega)⟩, ?_, ?_⟩, Nat.le_trans hs3 g4.size⟩
        · exact ((Only.of_below bD).trans (Only.of_grown g3 (fun r e => .inr (hlt3 r e)))).trans (Only.of_grown g4 (fun r e => by cases e; exact .inl rfl))
        · obtain ⟨k1, k2, k3⟩ := l3.below bv3
          refine ⟨k1, k2, fun hn => ?_⟩
          obtain ⟨bg, og, e, hb, hr⟩ := k3 hn
          injection e with e
          injection e with e1 e2
          refine ⟨bg, og, by rw [e1, e2], hb, fun j y hy => ?_⟩
          have hcy := hr j y hy
          refine (World.cell?_of_block (g4.block _ (World.block_lt_of_cell? _ _ hcy) (fun e => ?_))).trans hcy
          injection e with e
          exact hg13 (e1.trans e)
        · exact (H2.below.grown g3 H2.below.size (fun r e => Nat.le_trans hwv (hlt3 r e))).grown g4 (Nat.le_trans H2.below.size g3.size) (fun r e => by cases e; exact hw13)
      case done =>
        rintro D W hD ⟨V, vs, H, hs⟩ hDh
        have c13 := H.var.cell (i := 0) rfl
        go_wp2_with fail
        refine ⟨by simp, .inl ⟨_, _, rfl, run_takeDeferred hDh, ?_⟩⟩
        refine ⟨_, results_tmp rfl _ _ _, ?_⟩
        have gp := grownBy_putObj' W D (.deferred none)
        have H2 := H.far hwv hs gp (fun r e => by cases e; exact ⟨hD, nol_off hDh rfl⟩) (blk_ne H.var hDh rfl)
        exact ⟨_, rfl, Grid.less ⟨vs, H2.own, H2.tb⟩ hwv, H2.below⟩
end Go.Proofs.YtlinmcgmkpkpaaaDoor.Pi
