/-
  slices.Chunk of a list of records, by its contract: parts of one length, one behind the other.
  Package vm's Map, by its contract.
-/
import Derived.Test.YtlinmcgmkpkpaaaDoorB16
import Derived.Test.YtlinmcgmkpkpaaaDoorB4
import Derived.Test.YtlinmcgmkpkpaaaDoorB13
import Derived.Test.YtlinmcgmkpkpaaaDoorB7
import Derived.Test.YtlinmcgmkpkpaaaDoorB5
set_option linter.unusedVariables false
namespace Go.Proofs.YtlinmcgmkpkpaaaDoor.Pi
open Go.RowKit Go.Shelf Mem Held Go.Proofs.YtlinmcgmkpkpaaaDoor.Range Ct Rc Rs Sl Vm Mg
attribute [local go_sem] Oper.semAt_some
attribute [local irreducible] wpList wpListIn Calls
theorem run_mid_s {P : Program} {t e : TypeId} (sz : Nat) (ht : P.underlying t = some (.slice e)) (hs : (P.info? e).map (·.size) = some sz) (g off n cap : Nat) {l h : Nat} (hl : l < h) (hh : h ≤ cap) (w : World) :
    (Instr.sliceAt t (.slice (some ⟨g, off, none⟩) n cap) (some (.int .i64 (l : Int))) (some (.int .i64 (h : Int))) (some (.int .i64 (h : Int)))).run P w = .ok (.slice (some ⟨g, off + l * sz, none⟩) (h - l) (h - l)) w := by
  have he : P.elem t = e := by simp [Program.elem, ht]
  have ht' : P.underlying t = some (.slice (P.elem t)) := by rw [he]; exact ht
  obtain ⟨inf, hi, h1⟩ := Option.map_eq_some_iff.1 hs
  have hz : (sizeOf e).run P w = .ok sz w := by simp [sizeOf, typeInfo, hi, h1]
  have hne : ¬ h = l := by omega
  rw [run_sliceAt_slice w t _ _ _ _ ht', run_slice_lhm w t _ n cap ht' .i64 .i64 .i64 _ _ _ (by omega) (by omega) (by omega) (by omega), he, hz]
  simp [Result.andThen, sliced, Addr.add, hne]
section
variable {ops : Array Oper} {o : Oper} {a : Act} {w : World} {Q : Exit → Act → World → Prop}
theorem op_build_slot (i : Nat) (d : Option Tmp) {K : Act → World → Prop} {x : Operand} (p : Option Addr × Nat × Nat) (hi : ops[i]? = some o) (hd : o.dst = d) (hw : Region.wanted o (yielded ops a.tmps) = true)
    (ho : o.op = .buildSlice 45 1 #[(0, x)]) (hx : a.eval x = slV p)
    (h : ∀ g w', Lst kS w' w'.heap.size (some ⟨g, 0, none⟩) 1 [p] → Below w.heap.size w w' → Hid (w.heap.size ≤ g) → K (a.put d (.slice (some ⟨g, 0, none⟩) 1 1)) w') : wpOp Tryd.prog ops Q i K a w := by
  subst hd
  refine op_wp i hi hw ?_
  obtain ⟨ie, hie, hz, hs, _⟩ := info_parts info_lists
  refine Go.wp_buildSlice 45 48 1 #[(0, x)] ho #[slV p] ie _ Tryd.underlying45 hie hz (by rw [hs]; omega) (by rw [hs]; omega) ?_ (h _ _ (lst_whole (k := kS) (t := 48) (heap_alloc_new w _) rfl (fun _ _ => trivial)) ((Below.refl _ w).alloc (Nat.le_refl _) _) (Lib.hid (Nat.le_refl _)))
  rw [hs]
  simp only [List.map_toArray, List.map_cons, List.map_nil, hx]
  refine (Great.fill_whole (s := 1) (by omega) [slV p] _ (fun v hv => ?_) (by simp)).trans ?_
  · rw [List.mem_singleton.1 hv]; rfl
  · rfl
end
theorem size_rec7 : (Tryd.prog.info? 51).map (·.size) = some 4 := by kernel_rfl
set_option maxRecDepth 100000 in
set_option maxHeartbeats 2000000 in
theorem chunk_any (A : Option Addr) (n c B : Nat) (w : World) (hB : 1 ≤ B) :
    Calls Tryd.prog 57 #[.slice A n c, .int .i64 (B : Int)] w fun e w' => ∃ bl bn : Nat, e = .returned (.func (.func 69) #[] #[.pointer (some ⟨bl, 0, none⟩), .pointer (some ⟨bn, 0, none⟩)]) ∧
      Blk w' bl 48 #[.slice A n c] ∧ Blk w' bn 3 #[.int .i64 (B : Int)] ∧ w.heap.size ≤ bl ∧ w.heap.size ≤ bn ∧ Below w.heap.size w w' := by
  have hlt : ¬ (B : Int) < 1 := by omega
  go_enter Tryd.func57, Tryd.ntmps57
  go_wp2_with (first
    | (refine Held.wpList_box_cell (w := w) rfl 48 _ rfl (.slice A n c) rfl rfl ?_; intro u1 q1 g1 z1)
    | (refine Held.wpList_box_cell (w := u1) rfl 3 _ rfl (.int .i64 (B : Int)) rfl rfl ?_; intro u2 q2 g2 z2; have q2 : Blk u2 u1.heap.size 3 #[.int .i64 (B : Int)] := q2; have c2 := q2.cell (i := 0) rfl))
  go_ret
  have q1 : Blk u1 w.heap.size 48 #[.slice A n c] := q1
  exact ⟨_, _, rfl, q1.grown g2 (by simp), q2, Nat.le_refl _, g1.size, ((Below.refl _ w).grown g1 (Nat.le_refl _) (by simp)).grown g2 g1.size (by simp)⟩
def EncC (g B : Nat) (k : Nat) (B0 : Nat) (W : World) (args : Array Value) : Prop := args = #[.slice (some ⟨g, k * B * 4, none⟩) B B]
set_option maxRecDepth 100000 in
set_option maxHeartbeats 8000000 in
theorem chunk_give (N bl bn g B M L c : Nat) (Sx : Nat → Prop) (w : World) (q1 : Blk w bl 48 #[.slice (some ⟨g, 0, none⟩) L c]) (q2 : Blk w bn 3 #[.int .i64 (B : Int)]) (hB1 : 1 ≤ B) (hL : L = M * B) (hc : L ≤ c) (hL2 : L ≤ 1048576) (hB2 : B ≤ 1048576) (s1 : ¬ Sx bl) (s2 : ¬ Sx bn) :
    SeqGive Fence.wide N Tryd.prog 69 #[.pointer (some ⟨bl, 0, none⟩), .pointer (some ⟨bn, 0, none⟩)] (EncC g B) (Only Sx) (List.range M) w := by
  intro l J W hW hJ hY h0
  have q1 := q1.after hW
  have q2 := q2.after hW
  have HY := Lib.hid (fun (k : Nat) (wr : World) (hk : k < M) (hJk : J (List.range k) wr) => hY (List.range k) k #[.slice (some ⟨g, k * B * 4, none⟩) B B] wr wr hJk (World.grownBy.refl _ _) rfl (by
    rw [← List.range_succ]
    exact (List.prefix_iff_eq_take.2 (by rw [List.length_range, List.take_range, Nat.min_eq_left (by omega)]))))
  have h00 : J (List.range 0) W := h0
  clear hY h0 hW
  refine callsIn_of_wp Tryd.func69 rfl trivial ?_ rfl
  simp only [Tryd.ntmps69, List.size_toArray, List.length_cons, List.length_nil, Nat.reduceAdd, Nat.reduceSub, Array.replicate_succ, Array.replicate_zero, List.push_toArray, List.append_toArray, List.nil_append, List.cons_append]
  gi_wp2_with fail
  gi_loopw [4] (fun i wr => ∃ k : Nat, k ≤ M ∧ i = .int .i64 ((k * B : Nat) : Int) ∧ J (List.range k) wr ∧ Blk wr bl 48 #[.slice (some ⟨g, 0, none⟩) L c] ∧ Blk wr bn 3 #[.int .i64 (B : Int)]) (fun i _ => L + 1 - (intOf i).toNat)
  case atStart => exact ⟨0, by omega, by simp, h00, q1, q2⟩
  case round =>
    clear h00 q1 q2
    obtain ⟨k, hk, rfl, Jk, q1, q2⟩ := hrel
    have c1 := q1.cell (i := 0) rfl
    have c2 := q2.cell (i := 0) rfl
    by_cases hlt : k < M
    · have hkb : k * B + B ≤ L := by
        rw [hL]
        have := Nat.mul_le_mul_right B (show k + 1 ≤ M by omega)
        rwa [Nat.succ_mul] at this
      have hkn : (k + 1) * B = k * B + B := Nat.succ_mul k B
      obtain ⟨fn, tmps, assign, body, hy, hR⟩ := HY.out k wr hlt Jk
      rw [← List.range_succ] at hR
      obtain ⟨p, hp⟩ : ∃ p, k * B = p := ⟨_, rfl⟩
      rw [hp] at hkb hkn hy ⊢
      have HKN := Lib.hid hkn
      have HP := Lib.hid hp
      have hltp : (p : Int) < (L : Int) := by omega
      have hback := fun W => run_back_s (P := Tryd.prog) 4 Tryd.underlying48 size_rec7 g 0 L c (l := p) (by omega) (by omega) W
      have hmid := fun W => run_mid_s (P := Tryd.prog) 4 Tryd.underlying48 size_rec7 g 0 L c (l := p) (h := p + B) (by omega) (by omega) W
      rw [Nat.zero_add, Nat.add_sub_cancel_left] at hmid
      have HM := Lib.hid (show (if ((L - p : Nat) : Int) < (B : Int) then ((L - p : Nat) : Int) else (B : Int)) = (B : Int) by rw [if_neg (by omega)])
      have hadd : IntKind.i64.wrap ((p : Int) + (B : Int)) = ((p + B : Nat) : Int) := by rw [IntKind.wrap_i64]; omega
      have HAD := Lib.hid hadd
      clear hkn hp hL hadd hR hy fn tmps assign body
      gi_wp2_with fail
      refine Held.wpIn_region_heldR (r := none) (S := fun X => Blk X bl 48 #[.slice (some ⟨g, 0, none⟩) L c] ∧ Blk X bn 3 #[.int .i64 (B : Int)]) rfl (by kernel_rfl) (by kernel_rfl) (fun a w h => by obtain ⟨⟨v, e⟩, _⟩ := h; cases e) ?_
      change wpAnyH _ _ _ _ _ _ _ _ wr.drew
      have d0 : Blk wr.drew bl 48 #[.slice (some ⟨g, 0, none⟩) L c] ∧ Blk wr.drew bn 3 #[.int .i64 (B : Int)] := ⟨q1, q2⟩
      refine Held.tk (v := .int .i64 (B : Int)) 0 (some 13) rfl (Held.y_load rfl rfl (by kernel_rfl) (fun W1 hW => hW.2.cell (i := 0) rfl)) d0 ?_
      simp only [Act.put, Z1, Z2, Z3]
      refine Held.tk (v := .slice (some ⟨g, 0, none⟩) L c) 1 (some 14) rfl (Held.y_load rfl rfl (by kernel_rfl) (fun W1 hW => hW.1.cell (i := 0) rfl)) d0 ?_
      simp only [Act.put, Z1, Z2, Z3]
      refine Held.tk (v := .int .i64 (p : Int)) 2 (some 15) rfl (Held.y_move rfl rfl) d0 ?_
      simp only [Act.put, Z1, Z2, Z3]
      refine Held.tk (v := .slice (some ⟨g, 0 + p * 4, none⟩) (L - p) (c - p)) 3 (some 16) rfl (Held.y_slice rfl hback) d0 ?_
      simp only [Act.put, Z1, Z2, Z3]
      refine Held.tk (v := .int .i64 ((L - p : Nat) : Int)) 4 (some 17) rfl (Held.y_len rfl rfl Tryd.underlying48) d0 ?_
      simp only [Act.put, Z1, Z2, Z3]
      refine Held.tk (v := .int .i64 (B : Int)) 5 (some 18) rfl (Held.y_min rfl rfl rfl HM.out) d0 ?_
      simp only [Act.put, Z1, Z2, Z3]
      refine Held.tk (v := .int .i64 (B : Int)) 6 (some 5) rfl (Held.y_assign rfl rfl) d0 ?_
      simp only [Act.put, Z1, Z2, Z3]
      refine wpAnyH_done (by kernel_rfl) ?_ _
      have Jd := hJ _ _ _ Jk (grown_of_below (Below.refl wr.heap.size wr).drew none)
      obtain ⟨fn, tmps, assign, body, hy, hR⟩ := HY.out k wr.drew hlt Jd
      rw [HP.out] at hy
      rw [← List.range_succ] at hR
      obtain ⟨q1, q2⟩ := d0
      have c1 := q1.cell (i := 0) rfl
      generalize wr.drew = wd at *
      clear hback HM Jk Jd
      gi_wp2_with (first
        | (refine Held.wpListIn_one (r := none) rfl (by intro c e; cases e) ?_; refine Held.wpList_run (w := wd) rfl (v := .int .i64 ((p + B : Nat) : Int)) (Held.y_int (S := fun _ => True) rfl rfl rfl (Held.run_add 3 .i64 HAD.out) _ trivial) ?_; refine wpList_nil ⟨rfl, ?_⟩)
        | (refine Held.wpListIn_one (r := none) rfl (by intro c e; cases e) ?_; refine Held.wpList_run (w := wd) rfl (v := .slice (some ⟨g, p * 4, none⟩) B B) (Held.y_slice (S := fun _ => True) rfl hmid _ trivial) ?_; refine wpList_nil ⟨rfl, ?_⟩))
      refine ⟨fun h => (by cases h), ?_⟩
      refine hR.mono ?_
      rintro e W4 ⟨rfl, J4, o4⟩
      have q1 := only_blk o4 s1 q1
      have q2 := only_blk o4 s2 q2
      have c2 := q2.cell (i := 0) rfl
      clear hR hy o4 c1 hmid
      gi_wp2_with (refine Held.wpListIn_one (r := none) rfl (by intro c e; cases e) ?_; refine Held.wpList_run (w := W4) rfl (v := .int .i64 ((p + B : Nat) : Int)) (Held.y_int (S := fun _ => True) rfl rfl rfl (Held.run_add 3 .i64 HAD.out) _ trivial) ?_; refine wpList_nil ⟨rfl, ?_⟩)
      go_roundw
      case rel => exact ⟨k + 1, by omega, by rw [HKN.out]; rfl, J4, q1, q2⟩
      case measure => simp [intOf]; omega
    · obtain rfl : k = M := by omega
      have hnl : ¬ ((k * B : Nat) : Int) < (L : Int) := by omega
      rw [← hL]
      have hnl : ¬ (L : Int) < (L : Int) := by omega
      gi_wp2_with fail
      go_end0
      exact ⟨⟨_, rfl⟩, Jk⟩
end Go.Proofs.YtlinmcgmkpkpaaaDoor.Pi
namespace Go.Proofs.YtlinmcgmkpkpaaaDoor.Vm
open Go.RowKit Go.Shelf Go.Proofs.YtlinmcgmkpkpaaaDoor Mem Held Go.Proofs.YtlinmcgmkpkpaaaDoor.Range Rc Rs Sl
attribute [local irreducible] wpList wpListIn Calls
theorem info_mach : (Tryd.prog.info? 105).map (·.size) = some 10 := by kernel_rfl
set_option maxRecDepth 100000 in
set_option maxHeartbeats 8000000 in
theorem map_ok (B : Nat) (k : Nat) (A1 A2 A3 : Option Addr) (n1 c1 n2 c2 n3 c3 : Nat) (m f fi : List O) (n key val : Int) (w : World) (hn : (Lit.int .i64 n).wf = true) (hk : (Lit.int .i64 key).wf = true) (hv : (Lit.int .i64 val).wf = true) (h1 : Lst kO w B A1 n1 m) (h2 : Lst kO w B A2 n2 f) (h3 : Lst kO w B A3 n3 fi) (hB : B ≤ w.heap.size) (hC : checkB (k : Int) m f fi = true) :
    Calls Tryd.prog 54 #[.agg #[.int .i64 (k : Int), .slice A1 n1 c1, .slice A2 n2 c2, .slice A3 n3 c3], .int .i64 n, .agg #[.int .i64 key, .int .i64 val]] w fun e w' => ∃ g, e = .returned (.slice (some ⟨g, 0, none⟩) k k) ∧ Blk w' g 51 (flat kR (mapR (k : Int) m f fi n key val)).toArray ∧ w.heap.size ≤ g ∧ Below w.heap.size w w' := by
  obtain ⟨hK1, hK4, hmm, hmf, hme⟩ := checkB_says hC
  have hk1 : 1 ≤ k := by omega
  have hk4 : k ≤ 4 := by omega
  have HC := Lib.hid (show checkE (k : Int) m f fi = 0 by rw [checkE, if_pos hC])
  have HV := Lib.hid (show mapR (k : Int) m f fi n key val = runOut (wrap64 (n * (k : Int))) m [key, val, n, 0, 0, 0, 0, 0] (List.replicate k RD) by rw [mapR, if_pos hC, Int.toNat_natCast])
  rw [HV.out]
  clear HV hmf hme hK1 hK4 hC
  go_enter Tryd.func54, Tryd.ntmps54
  go_wp2_with (first
    | (refine wpList_box_blk (w := w) rfl 26 _ rfl #[.int .i64 (k : Int), .slice A1 n1 c1, .slice A2 n2 c2, .slice A3 n3 c3] rfl ?_; intro u1 qa g1 z1)
    | (refine wpList_box_blk (w := u1) rfl 39 _ rfl #[.int .i64 key, .int .i64 val] rfl ?_; intro u2 qp g2 z2; have qa := qa.grown g2 (by simp); have b1 : Below w.heap.size w u2 := ((Below.refl _ w).grown g1 (Nat.le_refl _) (by simp)).grown g2 g1.size (by simp); have hpl : w.heap.size ≤ u1.heap.size := g1.size; have L1 := h1.below (b1.mono hB); have L2 := h2.below (b1.mono hB); have L3 := h3.below (b1.mono hB); clear h1 h2 h3 g1 z1 g2 z2)
    | (refine wpList_load_blk (w := u2) rfl 26 _ rfl w.heap.size 4 rfl 26 _ qa _ Tryd.underlying26 rfl info_prog rfl ?_))
  refine (check_any B (k : Int) A1 A2 A3 n1 c1 n2 c2 n3 c3 m f fi u2 L1 L2 L3 (Nat.le_trans hB b1.size)).mono ?_
  rintro e u3 ⟨rfl, b3⟩
  rw [HC.out]
  have qa := qa.after b3
  have qp := qp.after b3
  have L1 := L1.below (b3.mono (Nat.le_trans hB b1.size))
  have b3 := b1.trans (b3.mono b1.size)
  clear b1 L2 L3 HC
  go_wp2_with fail
  refine wp_mono (Q := fun e a' w' => e = .normal ∧ ∃ gb gs gm, a' = { tmps := #[.agg #[.int .i64 (k : Int), .slice A1 n1 c1, .slice A2 n2 c2, .slice A3 n3 c3], .int .i64 n, .agg #[.int .i64 key, .int .i64 val], .pointer (some ⟨w.heap.size, 0, none⟩), undef, .pointer (some ⟨u1.heap.size, 0, none⟩), .slice none 0 0, .pointer (some ⟨gm, 0, none⟩), .agg #[.int .i64 (k : Int), .slice A1 n1 c1, .slice A2 n2 c2, .slice A3 n3 c3], .int .i64 0, .bool false, .agg #[.bool true, .int .i64 0, .int .i64 0, .int .i64 0], .slice (some ⟨gb, 0, none⟩) 1 1, .pointer (some ⟨w.heap.size, 0, none⟩), .int .i64 (k : Int), .slice (some ⟨gs, 0, none⟩) k k, .int .i64 n, .pointer (some ⟨w.heap.size, 0, none⟩), .int .i64 (k : Int), .int .i64 (wrap64 (n * (k : Int))), .agg #[.int .i64 0, .int .i64 0, .int .i64 0, .int .i64 0, .int .i64 0, .int .i64 0, .int .i64 0, .int .i64 0, .slice (some ⟨gs, 0, none⟩) k k, .int .i64 (wrap64 (n * (k : Int)))], undef, undef, undef, undef, undef, undef, undef, undef, undef, undef, undef], defers := [] } ∧ Blk w' gs 51 (flat kR (List.replicate k RD)).toArray ∧ Blk w' gm 105 #[.int .i64 0, .int .i64 0, .int .i64 0, .int .i64 0, .int .i64 0, .int .i64 0, .int .i64 0, .int .i64 0, .slice (some ⟨gs, 0, none⟩) k k, .int .i64 (wrap64 (n * (k : Int)))] ∧ gs ≠ gm ∧ u3.heap.size ≤ gs ∧ u3.heap.size ≤ gm ∧ Below u3.heap.size u3 w') ?_ ?_
  · refine wp_region_held (S := fun W => Below u3.heap.size u3 W) (by kernel_rfl) ?_
    change wpAnyH _ _ _ _ _ _ _ _ u3.drew
    have c0_0 := (Below.refl u3.heap.size u3).drew
    refine Held.take (v := .agg #[.bool true, .int .i64 0, .int .i64 0, .int .i64 0]) 0 (some 11) rfl rfl (by kernel_rfl) (by kernel_rfl) (by kernel_rfl) (fun _ _ _ h => by cases h.1) rfl (Held.y_build rfl (by kernel_rfl)) c0_0 ?_
    simp only [Act.put, Z1, Z2, Z3]
    refine Held.take (v := .pointer (some ⟨w.heap.size, 0, none⟩)) 2 (some 13) rfl rfl (by kernel_rfl) (by kernel_rfl) (by kernel_rfl) (fun _ _ _ h => by cases h.1) rfl (Held.y_field (k := 0) (s := 0) rfl rfl Tryd.underlying26 rfl (by kernel_rfl) rfl) c0_0 ?_
    simp only [Act.put, Z1, Z2, Z3]
    refine Held.take (v := .int .i64 (k : Int)) 3 (some 14) rfl rfl (by kernel_rfl) (by kernel_rfl) (by kernel_rfl) (fun _ _ _ h => by cases h.1) rfl (Held.y_load rfl rfl (by kernel_rfl) (fun W hW => (qa.below hW qa.lt).cell rfl)) c0_0 ?_
    simp only [Act.put, Z1, Z2, Z3]
    refine Held.take (v := .int .i64 n) 5 (some 16) rfl rfl (by kernel_rfl) (by kernel_rfl) (by kernel_rfl) (fun _ _ _ h => by cases h.1) rfl (Held.y_move rfl rfl) c0_0 ?_
    simp only [Act.put, Z1, Z2, Z3]
    refine Held.take (v := .pointer (some ⟨w.heap.size, 0, none⟩)) 6 (some 17) rfl rfl (by kernel_rfl) (by kernel_rfl) (by kernel_rfl) (fun _ _ _ h => by cases h.1) rfl (Held.y_field (k := 0) (s := 0) rfl rfl Tryd.underlying26 rfl (by kernel_rfl) rfl) c0_0 ?_
    simp only [Act.put, Z1, Z2, Z3]
    refine Held.take (v := .int .i64 (k : Int)) 7 (some 18) rfl rfl (by kernel_rfl) (by kernel_rfl) (by kernel_rfl) (fun _ _ _ h => by cases h.1) rfl (Held.y_load rfl rfl (by kernel_rfl) (fun W hW => (qa.below hW qa.lt).cell rfl)) c0_0 ?_
    simp only [Act.put, Z1, Z2, Z3]
    refine Held.take (v := .int .i64 (wrap64 (n * (k : Int)))) 8 (some 19) rfl rfl (by kernel_rfl) (by kernel_rfl) (by kernel_rfl) (fun _ _ _ h => by cases h.1) rfl (Held.y_int rfl rfl rfl (Held.run_mul 2 .i64 (w64 _))) c0_0 ?_
    simp only [Act.put, Z1, Z2, Z3]
    refine Held.two 1 10 (by kernel_rfl) ?_ ?_
    · refine op_build_lst (k := kR) 1 (some 12) 48 51 1 _ 32 [RD] rfl rfl rfl rfl Tryd.underlying48 info_rec3 rfl rfl (by simp [Act.eval, kR, R.cells, RD]) (by omega) (by decide) ?_
      intro gb w1 qb b1 hb1
      have hgb := Nat.le_trans c0_0.size hb1.out
      have c0_1 := c0_0.trans (b1.mono c0_0.size)
      refine ⟨c0_1, ?_⟩
      simp only [Act.put, Z1, Z2, Z3]
      refine Held.two 4 10 (by kernel_rfl) ?_ ?_
      · refine Held.op_call 4 (some 15) 55 #[.slice (some ⟨gb, 0, none⟩) 1 1, .int .i64 (k : Int)] rfl rfl rfl rfl (enters_of Tryd.func55 (by kernel_rfl) rfl) (by simp [Act.eval])
          (repeat_any _ (some ⟨gb, 0, none⟩) 1 k RD _ (lst_whole qb rfl (fun x hx => by rw [List.mem_singleton.1 hx]; exact ⟨rfl, rfl, rfl⟩)) (Nat.le_refl _) hk1 hk4) ?_
        rintro e w2 ⟨gs, rfl, qs, hgs_, b2⟩
        have c0_2 := c0_1.trans (b2.mono c0_1.size)
        have hgs := Nat.le_trans c0_1.size hgs_
        have qs_lt := qs.lt
        refine ⟨_, rfl, c0_2, ?_⟩
        simp only [Act.put, Z1, Z2, Z3]
        refine Held.take (v := .agg #[.int .i64 0, .int .i64 0, .int .i64 0, .int .i64 0, .int .i64 0, .int .i64 0, .int .i64 0, .int .i64 0, .slice (some ⟨gs, 0, none⟩) k k, .int .i64 (wrap64 (n * (k : Int)))]) 9 (some 20) rfl rfl (by kernel_rfl) (by kernel_rfl) (by kernel_rfl) (fun _ _ _ h => by cases h.1) rfl (Held.y_build rfl (by kernel_rfl)) c0_2 ?_
        simp only [Act.put, Z1, Z2, Z3]
        refine Held.one 10 (by kernel_rfl) ?_
        refine op_alloc_blk 10 (some 7) 105 _ rfl rfl rfl rfl zero_mach ?_
        intro gm w3 qm b3 hb3
        have hgm := Nat.le_trans c0_2.size hb3.out
        have qs := qs.after b3
        have hsm : gs ≠ gm := fun e => absurd (Nat.lt_of_lt_of_le qs_lt hb3.out) (by rw [e]; exact Nat.lt_irrefl _)
        have c0_3 := c0_2.trans (b3.mono c0_2.size)
        refine ⟨c0_3, ?_⟩
        simp only [Act.put, Z1, Z2, Z3]
        refine Held.one 11 (by kernel_rfl) ?_
        refine Held.op_store_blk 11 none 105 gm 10 105 _ #[.int .i64 0, .int .i64 0, .int .i64 0, .int .i64 0, .int .i64 0, .int .i64 0, .int .i64 0, .int .i64 0, .slice (some ⟨gs, 0, none⟩) k k, .int .i64 (wrap64 (n * (k : Int)))] rfl rfl rfl rfl rfl rfl qm info_mach rfl rfl (by kernel_rfl) ?_
        intro w4 qz g4
        have c0_4 := c0_3.grown g4 c0_3.size (fun r e => by cases e; exact hgm)
        have qy := qs.grown g4 (by intro e; injection e with e; exact hsm e)
        refine ⟨c0_4, ?_⟩
        simp only [Act.put]
        refine wpAnyH_done (by kernel_rfl) ?_ _
        exact ⟨rfl, gb, gs, gm, rfl, qy, qz, hsm, hgs, hgm, c0_4⟩
      · refine op_alloc_blk 10 (some 7) 105 _ rfl rfl rfl rfl zero_mach ?_
        intro gm w2 qm b2 hb2
        have hgm := Nat.le_trans c0_1.size hb2.out
        have qb := qb.after b2
        have c0_2 := c0_1.trans (b2.mono c0_1.size)
        refine ⟨c0_2, ?_⟩
        simp only [Act.put, Z1, Z2, Z3]
        refine Held.one 4 (by kernel_rfl) ?_
        refine Held.op_call 4 (some 15) 55 #[.slice (some ⟨gb, 0, none⟩) 1 1, .int .i64 (k : Int)] rfl rfl rfl rfl (enters_of Tryd.func55 (by kernel_rfl) rfl) (by simp [Act.eval])
          (repeat_any _ (some ⟨gb, 0, none⟩) 1 k RD _ (lst_whole qb rfl (fun x hx => by rw [List.mem_singleton.1 hx]; exact ⟨rfl, rfl, rfl⟩)) (Nat.le_refl _) hk1 hk4) ?_
        rintro e w3 ⟨gs, rfl, qs, hgs_, b3⟩
        have c0_3 := c0_2.trans (b3.mono c0_2.size)
        have hgs := Nat.le_trans c0_2.size hgs_
        have hsm : gs ≠ gm := fun e => absurd qm.lt (by rw [← e]; exact Nat.not_lt.2 hgs_)
        have qm := qm.after b3
        refine ⟨_, rfl, c0_3, ?_⟩
        simp only [Act.put, Z1, Z2, Z3]
        refine Held.take (v := .agg #[.int .i64 0, .int .i64 0, .int .i64 0, .int .i64 0, .int .i64 0, .int .i64 0, .int .i64 0, .int .i64 0, .slice (some ⟨gs, 0, none⟩) k k, .int .i64 (wrap64 (n * (k : Int)))]) 9 (some 20) rfl rfl (by kernel_rfl) (by kernel_rfl) (by kernel_rfl) (fun _ _ _ h => by cases h.1) rfl (Held.y_build rfl (by kernel_rfl)) c0_3 ?_
        simp only [Act.put, Z1, Z2, Z3]
        refine Held.one 11 (by kernel_rfl) ?_
        refine Held.op_store_blk 11 none 105 gm 10 105 _ #[.int .i64 0, .int .i64 0, .int .i64 0, .int .i64 0, .int .i64 0, .int .i64 0, .int .i64 0, .int .i64 0, .slice (some ⟨gs, 0, none⟩) k k, .int .i64 (wrap64 (n * (k : Int)))] rfl rfl rfl rfl rfl rfl qm info_mach rfl rfl (by kernel_rfl) ?_
        intro w4 qz g4
        have c0_4 := c0_3.grown g4 c0_3.size (fun r e => by cases e; exact hgm)
        have qy := qs.grown g4 (by intro e; injection e with e; exact hsm e)
        refine ⟨c0_4, ?_⟩
        simp only [Act.put]
        refine wpAnyH_done (by kernel_rfl) ?_ _
        exact ⟨rfl, gb, gs, gm, rfl, qy, qz, hsm, hgs, hgm, c0_4⟩
    · refine op_alloc_blk 10 (some 7) 105 _ rfl rfl rfl rfl zero_mach ?_
      intro gm w1 qm b1 hb1
      have hgm := Nat.le_trans c0_0.size hb1.out
      have c0_1 := c0_0.trans (b1.mono c0_0.size)
      refine ⟨c0_1, ?_⟩
      simp only [Act.put, Z1, Z2, Z3]
      refine Held.one 1 (by kernel_rfl) ?_
      refine op_build_lst (k := kR) 1 (some 12) 48 51 1 _ 32 [RD] rfl rfl rfl rfl Tryd.underlying48 info_rec3 rfl rfl (by simp [Act.eval, kR, R.cells, RD]) (by omega) (by decide) ?_
      intro gb w2 qb b2 hb2
      have hgb := Nat.le_trans c0_1.size hb2.out
      have qm := qm.after b2
      have c0_2 := c0_1.trans (b2.mono c0_1.size)
      refine ⟨c0_2, ?_⟩
      simp only [Act.put, Z1, Z2, Z3]
      refine Held.one 4 (by kernel_rfl) ?_
      refine Held.op_call 4 (some 15) 55 #[.slice (some ⟨gb, 0, none⟩) 1 1, .int .i64 (k : Int)] rfl rfl rfl rfl (enters_of Tryd.func55 (by kernel_rfl) rfl) (by simp [Act.eval])
        (repeat_any _ (some ⟨gb, 0, none⟩) 1 k RD _ (lst_whole qb rfl (fun x hx => by rw [List.mem_singleton.1 hx]; exact ⟨rfl, rfl, rfl⟩)) (Nat.le_refl _) hk1 hk4) ?_
      rintro e w3 ⟨gs, rfl, qs, hgs_, b3⟩
      have c0_3 := c0_2.trans (b3.mono c0_2.size)
      have hgs := Nat.le_trans c0_2.size hgs_
      have hsm : gs ≠ gm := fun e => absurd qm.lt (by rw [← e]; exact Nat.not_lt.2 hgs_)
      have qm := qm.after b3
      refine ⟨_, rfl, c0_3, ?_⟩
      simp only [Act.put, Z1, Z2, Z3]
      refine Held.take (v := .agg #[.int .i64 0, .int .i64 0, .int .i64 0, .int .i64 0, .int .i64 0, .int .i64 0, .int .i64 0, .int .i64 0, .slice (some ⟨gs, 0, none⟩) k k, .int .i64 (wrap64 (n * (k : Int)))]) 9 (some 20) rfl rfl (by kernel_rfl) (by kernel_rfl) (by kernel_rfl) (fun _ _ _ h => by cases h.1) rfl (Held.y_build rfl (by kernel_rfl)) c0_3 ?_
      simp only [Act.put, Z1, Z2, Z3]
      refine Held.one 11 (by kernel_rfl) ?_
      refine Held.op_store_blk 11 none 105 gm 10 105 _ #[.int .i64 0, .int .i64 0, .int .i64 0, .int .i64 0, .int .i64 0, .int .i64 0, .int .i64 0, .int .i64 0, .slice (some ⟨gs, 0, none⟩) k k, .int .i64 (wrap64 (n * (k : Int)))] rfl rfl rfl rfl rfl rfl qm info_mach rfl rfl (by kernel_rfl) ?_
      intro w4 qz g4
      have c0_4 := c0_3.grown g4 c0_3.size (fun r e => by cases e; exact hgm)
      have qy := qs.grown g4 (by intro e; injection e with e; exact hsm e)
      refine ⟨c0_4, ?_⟩
      simp only [Act.put]
      refine wpAnyH_done (by kernel_rfl) ?_ _
      exact ⟨rfl, gb, gs, gm, rfl, qy, qz, hsm, hgs, hgm, c0_4⟩
  · rintro e a' v1 ⟨rfl, gb, gs, gm, rfl, qs, qm, hsm, hgs, hgm, cz⟩
    have qa := qa.after cz
    have qp := qp.after cz
    have L1 := L1.below (cz.mono (Nat.le_trans hB b3.size))
    have bz := b3.trans (cz.mono b3.size)
    have hlm := qm.lt
    have hls := qs.lt
    have hc1 := qa.cell (i := 1) rfl
    have hp0 := qp.cell (i := 0) rfl
    have hp1 := qp.cell (i := 1) rfl
    have s3 := b3.size
    clear cz
    have HWF := Lib.hid (show ∀ z ∈ [key, val, n], (Lit.int .i64 z).wf = true from fun z hz => by
      rcases List.mem_cons.1 hz with rfl | hz
      · exact hk
      · rcases List.mem_cons.1 hz with rfl | hz
        · exact hv
        · rw [List.mem_singleton.1 hz]; exact hn)
    go_wp2_with (first
      | (refine wpList_run (w := v1) rfl (v := .pointer (some ⟨w.heap.size, 1, none⟩)) (Held.y_field (S := fun _ => True) (k := 1) (s := 0) rfl rfl Tryd.underlying26 rfl (by kernel_rfl) rfl _ trivial) ?_)
      | (refine wpList_run (w := v1) rfl (v := .pointer (some ⟨u1.heap.size, 0, none⟩)) (Held.y_field (S := fun _ => True) (k := 0) (s := 0) rfl rfl Tryd.underlying39 rfl (by kernel_rfl) rfl _ trivial) ?_)
      | (refine wpList_run (w := v1) rfl (v := .pointer (some ⟨u1.heap.size, 1, none⟩)) (Held.y_field (S := fun _ => True) (k := 1) (s := 0) rfl rfl Tryd.underlying39 rfl (by kernel_rfl) rfl _ trivial) ?_)
      | (refine Held.wpList_build_row (w := v1) rfl 130 2 3 _ rfl .i64 8 [key, val, n] Tryd.underlying130 info_i64 (by simp [Act.eval]) rfl (by omega) (by omega) HWF.out ?_; intro w4 r4 g4 z4))
    have b4 : Below u3.heap.size v1 w4 := (Below.refl _ v1).grown g4 (by omega) (by simp)
    have qm4 : Blk w4 gm 105 (mach (List.replicate 8 0) (.slice (some ⟨gs, 0, none⟩) k k) (wrap64 (n * (k : Int)))) := qm.grown g4 (by simp)
    have qs4 := qs.grown g4 (by simp)
    have L4 := L1.below (b4.mono (Nat.le_trans hB s3))
    have b4z := bz.trans (b4.mono s3)
    have l4 := r4.lt
    have s4 := b4z.size
    refine (run_any u3.heap.size B w4.heap.size gm gs A1 (some ⟨v1.heap.size, 0, none⟩) (some ⟨gs, 0, none⟩) n1 c1 3 3 k k m [key, val, n] (wrap64 (n * (k : Int))) (List.replicate k RD) w4 L4 (r4.ints (by simp)) (Nat.le_trans hB s3) hgm (by omega) (Nat.le_refl _) (by omega) (by omega) qm4 (fun _ => ⟨rfl, qs4, hsm, hgs⟩) (by simp) hmm).mono ?_
    rintro e w5 ⟨⟨v, rfl⟩, q5, qs5, b5⟩
    have b5 := b4z.trans (b5.mono s3)
    have qs5 := qs5 (by omega)
    have hrl : (runR m ([key, val, n] ++ List.replicate (8 - 3) 0)).length = 8 := by rw [runR_length]; rfl
    have c5 := q5.cell (mach_8 hrl _ _)
    have hRO := Lib.hid (show runOut (wrap64 (n * (k : Int))) m ([key, val, n] ++ List.replicate (8 - 3) 0) (List.replicate k RD) = runOut (wrap64 (n * (k : Int))) m [key, val, n, 0, 0, 0, 0, 0] (List.replicate k RD) from rfl)
    rw [hRO.out] at qs5
    clear q5 hrl qm qs qm4 qs4 L4 L1 r4 g4 b4 b4z
    go_wp2_with (refine wpList_run (w := w5) rfl (v := .pointer (some ⟨gm, 8, none⟩)) (Held.y_field (S := fun _ => True) (k := 8) (s := 0) rfl rfl Tryd.underlying105 rfl (by kernel_rfl) rfl _ trivial) ?_)
    go_ret
    exact ⟨gs, rfl, qs5, Nat.le_trans s3 hgs, b5⟩
end Go.Proofs.YtlinmcgmkpkpaaaDoor.Vm
