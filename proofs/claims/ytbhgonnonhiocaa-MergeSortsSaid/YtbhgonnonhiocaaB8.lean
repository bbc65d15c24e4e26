/-
  The document's own ahead and Sort (dominoref14), by their contracts.
  The document's own Sorted and Split (dominoref14), and what a program that does nothing does not answer, by their contracts.
  What the frame of a proof says of a list of records that came in.
-/
import Derived.Test.YtbhgonnonhiocaaB6
import Derived.Test.YtbhgonnonhiocaaB7
import Derived.Test.YtbhgonnonhiocaaB4
import Derived.Test.YtbhgonnonhiocaaB3
import Derived.WideShapes
import Derived.ChangeArms
set_option linter.unusedVariables false
namespace Go.Proofs.Ytbhgonnonhiocaa.Mg
open Go.RowKit Go.Shelf Go.Proofs.Ytbhgonnonhiocaa Mem Held Ct Rc Rs Sl
attribute [local irreducible] wpList wpListIn Calls
section
variable {α : Type} {k : St α} {P : Program} {ops : Array Oper} {o : Oper} {a : Act} {w : World} {Q : Exit → Act → World → Prop}
theorem run_append_all (w : World) (ts ty e : TypeId) (hu : P.underlying ts = some (.slice e)) (z : Value) (bytes : Nat) (hinfo : (P.info? e).map (fun i => (i.zero, i.size, i.bytes)) = some (some z, k.s, bytes)) (hz : z.cells.size = k.s)
    (base B m c : Nat) (A : Option Addr) (v : Value) (xs ys : List α) (hown : OwnL k e w base v xs) (hq : Lst k w B A m ys) (hm : xs.length + m ≤ 1048576) (hby : bytes ≤ 1048576) (hbase : base ≤ w.heap.size) :
    ∃ v' w', (Builtin.append_ #[ts, ts] ty #[v, .slice A m c]).run P w = .ok v' w' ∧ OwnL k e w' base v' (xs ++ ys) ∧ w.grownBy w' v.ownBlock ∧ (v'.ownBlock = v.ownBlock ∨ v'.ownBlock = some w.heap.size) := by
  obtain ⟨ie, hie, hz0, hsz, hb⟩ := info_parts hinfo
  rcases Nat.eq_zero_or_pos m with h0 | h0
  · subst h0
    have e0 : ys = [] := List.eq_nil_of_length_eq_zero hq.1
    subst e0
    obtain ⟨A', c', rfl, hle, _⟩ := OwnL.form hown
    exact ⟨_, w, run_append_zero ts e hu ie hie w A' A _ c' c hle, by rw [List.append_nil]; exact hown, World.grownBy.refl w _, .inl rfl⟩
  · obtain ⟨g, off, rfl, _, hc⟩ := hq.2.2 h0
    obtain ⟨v', w', h1, h2, h3, _, h5⟩ := run_append_own_at (P := P) w base ts ty e ie z k.s bytes hu hie hz0 hsz hb hz k.pos v xs.length (flat k xs) hown ⟨g, off, none⟩ m c (flat k ys) (by rw [Sl.flat_length, hq.1])
      (fun j u hj => by rw [show (Addr.mk g off none).add j = ⟨g, off + j, none⟩ by (unfold Addr.add; split <;> simp_all)]; exact hc j u hj) (flat_cell ys) (by unfold maxLen; omega) (Nat.le_trans (Nat.mul_le_mul hm hby) (by omega)) hbase
    refine ⟨v', w', h1, ?_, h3, h5⟩
    unfold OwnL
    rw [Sl.flat_append, List.length_append, hq.1]
    exact h2
theorem op_append_all (i : Nat) (d : Option Tmp) {K : Act → World → Prop} {s x : Operand} (ts e : TypeId) (hi : ops[i]? = some o) (hd : o.dst = d) (hw : Region.wanted o (yielded ops a.tmps) = true)
    (ho : o.op = .call { callee := .builtin .append, args := #[s, x], argTypes := #[ts, ts] }) (hu : P.underlying ts = some (.slice e)) (z : Value) (bytes : Nat) (hinfo : (P.info? e).map (fun i => (i.zero, i.size, i.bytes)) = some (some z, k.s, bytes)) (hz : z.cells.size = k.s)
    (base B m c : Nat) (A : Option Addr) (v : Value) (xs ys : List α) (hs : a.eval s = v) (hx : a.eval x = .slice A m c) (hown : OwnL k e w base v xs) (hq : Lst k w B A m ys) (hm : xs.length + m ≤ 1048576) (hby : bytes ≤ 1048576) (hbase : base ≤ w.heap.size)
    (h : ∀ v' w', OwnL k e w' base v' (xs ++ ys) → w.grownBy w' v.ownBlock → (v'.ownBlock = v.ownBlock ∨ v'.ownBlock = some w.heap.size) → K (a.put d v') w') : wpOp P ops Q i K a w := by
  subst hd
  obtain ⟨v', w', h1, h2, h3, h4⟩ := run_append_all (P := P) w ts o.type e hu z bytes hinfo hz base B m c A v xs ys hown hq hm hby hbase
  refine op_wp i hi hw ?_
  exact Lib.wp_append_run w s x ts ts ho _ _ hs hx _ w' h1 (h v' w' h2 h3 h4)
end
set_option maxRecDepth 100000 in
set_option maxHeartbeats 4000000 in
theorem rlead_any (seq : Bool) (a b : R) (w : World) :
    Calls Try.prog 29 #[.agg #[.bool a.d, .int .i64 a.k, .int .i64 a.v, .int .i64 a.s], .agg #[.bool b.d, .int .i64 b.k, .int .i64 b.v, .int .i64 b.s], .bool seq] w fun e w' => e = .returned (.bool (lead seq a b)) ∧ Below w.heap.size w w' := by
  go_enter Try.func29, Try.ntmps29
  cases seq with
  | true =>
    have HE := Lib.hid (show lead true a b = bef a.d a.k a.s b.d b.k b.s from rfl)
    go_wp2_with (first
      | (refine wpList_box_blk (w := w) rfl 26 _ rfl _ rfl ?_; intro w1 q1 g1 z1)
      | (refine wpList_box_blk (w := w1) rfl 26 _ rfl _ rfl ?_; intro w2 q2 g2 z2; have q1 := q1.grown g2 (by simp))
      | (refine wpList_load_blk (w := w2) rfl 26 _ rfl w.heap.size 4 rfl 26 _ q1 _ Try.underlying26 rfl (by kernel_rfl) rfl ?_)
      | (refine wpList_load_blk (w := w2) rfl 26 _ rfl w1.heap.size 4 rfl 26 _ q2 _ Try.underlying26 rfl (by kernel_rfl) rfl ?_))
    have b2 : Below w.heap.size w w2 := ((Below.refl _ w).grown g1 (Nat.le_refl _) (by simp)).grown g2 g1.size (by simp)
    refine (rbefore_any a.d a.k a.v a.s b.d b.k b.v b.s _).mono ?_
    rintro e w3 ⟨rfl, b3⟩
    have b3 := b2.trans (b3.mono b2.size)
    cases hb : bef a.d a.k a.s b.d b.k b.s
    all_goals
      rw [hb] at HE
      go_wp2_with fail
      go_ret
      exact ⟨Mem.ret_bool HE.out.symm, b3⟩
  | false =>
    have HE := Lib.hid (show lead false a b = ahd a.d a.k b.d b.k from rfl)
    go_wp2_with (first
      | (refine wpList_box_blk (w := w) rfl 26 _ rfl _ rfl ?_; intro w1 q1 g1 z1)
      | (refine wpList_box_blk (w := w1) rfl 26 _ rfl _ rfl ?_; intro w2 q2 g2 z2; have q1 := q1.grown g2 (by simp))
      | (refine wpList_load_blk (w := w2) rfl 26 _ rfl w.heap.size 4 rfl 26 _ q1 _ Try.underlying26 rfl (by kernel_rfl) rfl ?_)
      | (refine wpList_load_blk (w := w2) rfl 26 _ rfl w1.heap.size 4 rfl 26 _ q2 _ Try.underlying26 rfl (by kernel_rfl) rfl ?_))
    have b2 : Below w.heap.size w w2 := ((Below.refl _ w).grown g1 (Nat.le_refl _) (by simp)).grown g2 g1.size (by simp)
    refine (rahead_any a.d a.k a.v a.s b.d b.k b.v b.s _).mono ?_
    rintro e w3 ⟨rfl, b3⟩
    have b3 := b2.trans (b3.mono b2.size)
    cases hb : ahd a.d a.k b.d b.k
    all_goals
      rw [hb] at HE
      go_wp2_with fail
      go_ret
      exact ⟨Mem.ret_bool HE.out.symm, b3⟩
theorem own0 {α : Type} {k : St α} {t : TypeId} {w : World} {base n c : Nat} {A : Option Addr} {xs : List α} (h : OwnL k t w base (.slice A n c) xs) (h0 : 0 < n) : ∃ g, A = some ⟨g, 0, none⟩ ∧ base ≤ g ∧ g < w.heap.size ∧ ∃ cur, w.heap[g]? = some (.cells cur t (0, 0)) := by
  rcases h.2 with ⟨e, hn⟩ | ⟨g, cap, cur, e, hb, hg, _⟩
  · injection e with e1 e2 e3
    omega
  · injection e with e1 e2 e3
    exact ⟨g, e1, hb, (Array.getElem?_eq_some_iff.1 hg).1, cur, hg⟩
theorem take_snoc {rs : List R} {i : Nat} (h : i < rs.length) : rs.take (i + 1) = rs.take i ++ [rs.getD i R0] := by
  rw [List.take_add_one, List.getElem?_eq_getElem h, List.getD_eq_getElem?_getD, List.getElem?_eq_getElem h]
  rfl
set_option maxRecDepth 100000 in
set_option maxHeartbeats 8000000 in
theorem rsort_any (B : Nat) (A : Option Addr) (n c : Nat) (rs : List R) (seq : Bool) (w : World) (h : Lst kRec w B A n rs) (hB : B ≤ w.heap.size) (hn : n ≤ 524288) :
    Calls Try.prog 14 #[.slice A n c, .bool seq] w fun e w' => ∃ v, e = .returned v ∧ OwnL kRec 26 w' w.heap.size v (sortR seq rs) ∧ Below w.heap.size w w' := by
  have HL := Lib.hid h.1
  have HFL := Lib.hid (fun i => foldR_length seq (rs.take i) [])
  have HFI := Lib.hid (fun i (hi : i < rs.length) => show (rs.take (i + 1)).foldl (insR seq) [] = insR seq ((rs.take i).foldl (insR seq) []) (rs.getD i R0) by rw [take_snoc hi, List.foldl_append]; rfl)
  have HFW := Lib.hid (fun i (y : R) (hy : y ∈ (rs.take i).foldl (insR seq) []) => show y.wf from h.2.1 y (List.mem_of_mem_take (((sortR_perm seq (rs.take i)).mem_iff).1 hy)))
  go_enter Try.func14, Try.ntmps14
  go_wp2_with fail
  go_loopw [5, 6] (fun u iv wr => ∃ i : Nat, i ≤ n ∧ iv = .int .i64 i ∧ OwnL kRec 26 wr w.heap.size u ((rs.take i).foldl (insR seq) []) ∧ Below w.heap.size w wr) (fun _ i _ => n - (intOf i).toNat)
  case atStart => exact ⟨0, by omega, rfl, OwnL.nil _ _ _ _, Below.refl _ _⟩
  case round =>
    obtain ⟨i, hi, rfl, ho, hst⟩ := hrel
    by_cases hlt : i < n
    · have hlt' : (i : Int) < (n : Int) := by omega
      have hr := Lst.below h (hst.mono hB)
      obtain ⟨b, off, rfl, hb, hx⟩ := hr.at_ hlt
      have hx : wr.rangeAt b (off + i * 4) (rs.getD i R0).cells := hx
      have hbw : b < wr.heap.size := Nat.lt_of_lt_of_le hb (Nat.le_trans hB hst.size)
      obtain ⟨Ao, m, cm, rfl, hm, _, _⟩ := OwnL.form2 ho
      have hmi : m = i := by
        have h1 := hm.out
        have h2 := HFL.out i
        rw [h1, List.length_take, HL.out] at h2
        simp at h2
        omega
      have wx := h.2.1 _ (getD_mem (rs := rs) (i := i) (by have := HL.out; omega))
      have HNX := Lib.hid (HFI.out i (by have := HL.out; omega))
      have HOW := Lib.hid (HFW.out i)
      generalize (rs.take i).foldl (insR seq) [] = out at ho hm HNX HOW
      generalize rs.getD i R0 = x at hx wx HNX
      have hm5 : m ≤ 524288 := by omega
      clear hr hm hmi
      have HM := Lib.hid ((OwnL.lst ho HOW.out).1)
      go_wp2_with fail
      generalize wr = wo at *
      go_loopw [7] (fun kv wr => ∃ k : Nat, k ≤ m ∧ kv = .int .i64 k ∧ Hid (spotR seq x out m = spotR seq x out k) ∧ Below wo.heap.size wo wr) (fun k _ => (intOf k).toNat)
      case atStart => exact ⟨m, by omega, rfl, Lib.hid rfl, Below.refl _ _⟩
      case round =>
        obtain ⟨k, hk, rfl, hsp, hs2⟩ := hrel
        have hbw : b < wr.heap.size := Nat.lt_of_lt_of_le hbw hs2.size
        have hx := range_below hx hs2 (by assumption)
        have hst := hst.trans (hs2.mono hst.size)
        have ho := OwnL.below ho hs2
        by_cases hk0 : k = 0
        · have HSP := Lib.hid (show spotR seq x out m = k by rw [hsp.out, hk0]; rfl)
          have hgt : decide ((0 : Int) < (k : Int)) = false := by simp; omega
          clear hk0
          go_wp2_with fail
          refine wp_region_held (S := fun W => Below wr.heap.size wr W) (by kernel_rfl) ?_
          change wpAnyH _ _ _ _ _ _ _ _ wr.drew
          have c0_0 := (Below.refl wr.heap.size wr).drew
          refine Held.tk (v := .int .i64 (k : Int)) 0 (some 16) rfl (Held.y_move rfl rfl) c0_0 ?_
          simp only [Act.put, Z1, Z2, Z3]
          refine Held.tk (v := .bool false) 1 (some 17) rfl (Held.y_gtr rfl rfl rfl hgt) c0_0 ?_
          simp only [Act.put, Z1, Z2, Z3]
          refine Held.tk (v := .bool false) 2 (some 18) rfl (Held.y_move rfl rfl) c0_0 ?_
          simp only [Act.put, Z1, Z2, Z3]
          refine Held.skip 3 (some 19) rfl rfl (by kernel_rfl) (by kernel_rfl) (by kernel_rfl) (fun _ _ _ h => h) rfl c0_0 ?_
          simp only [Act.put, Z1, Z2, Z3]
          refine Held.skip 4 (some 20) rfl rfl (by kernel_rfl) (by kernel_rfl) (by kernel_rfl) (fun _ _ _ h => h) rfl c0_0 ?_
          simp only [Act.put, Z1, Z2, Z3]
          refine Held.skip 5 (some 21) rfl rfl (by kernel_rfl) (by kernel_rfl) (by kernel_rfl) (fun _ _ _ h => h) rfl c0_0 ?_
          simp only [Act.put, Z1, Z2, Z3]
          refine Held.skip 6 (some 22) rfl rfl (by kernel_rfl) (by kernel_rfl) (by kernel_rfl) (fun _ _ _ h => h) rfl c0_0 ?_
          simp only [Act.put, Z1, Z2, Z3]
          refine Held.skip 7 (some 23) rfl rfl (by kernel_rfl) (by kernel_rfl) (by kernel_rfl) (fun _ _ _ h => h) rfl c0_0 ?_
          simp only [Act.put, Z1, Z2, Z3]
          refine Held.skip 8 (some 24) rfl rfl (by kernel_rfl) (by kernel_rfl) (by kernel_rfl) (fun _ _ _ h => h) rfl c0_0 ?_
          simp only [Act.put, Z1, Z2, Z3]
          refine Held.skip 9 (some 25) rfl rfl (by kernel_rfl) (by kernel_rfl) (by kernel_rfl) (fun _ _ _ h => h) rfl c0_0 ?_
          simp only [Act.put, Z1, Z2, Z3]
          refine Held.skip 10 (some 26) rfl rfl (by kernel_rfl) (by kernel_rfl) (by kernel_rfl) (fun _ _ _ h => h) rfl c0_0 ?_
          simp only [Act.put, Z1, Z2, Z3]
          refine Held.skip 11 (some 27) rfl rfl (by kernel_rfl) (by kernel_rfl) (by kernel_rfl) (fun _ _ _ h => h) rfl c0_0 ?_
          simp only [Act.put, Z1, Z2, Z3]
          refine Held.skip 12 (some 28) rfl rfl (by kernel_rfl) (by kernel_rfl) (by kernel_rfl) (fun _ _ _ h => h) rfl c0_0 ?_
          simp only [Act.put, Z1, Z2, Z3]
          refine Held.skip 13 (some 29) rfl rfl (by kernel_rfl) (by kernel_rfl) (by kernel_rfl) (fun _ _ _ h => h) rfl c0_0 ?_
          simp only [Act.put, Z1, Z2, Z3]
          refine Held.tk (v := .bool false) 14 (some 30) rfl (Held.y_pickF rfl rfl rfl) c0_0 ?_
          simp only [Act.put, Z1, Z2, Z3]
          refine wpAnyH_done (by kernel_rfl) ?_ _
          have hcz := c0_0
          generalize wr.drew = wy at hcz ⊢
          have hbw := Nat.lt_of_lt_of_le hbw hcz.size
          have hx := range_below hx hcz (by assumption)
          have hst := hst.trans (hcz.mono hst.size)
          have ho := OwnL.below ho hcz
          obtain ⟨A1, A2, c2, f1, f2, k1, k2⟩ := own_parts ho HOW.out hk
          go_wp2_with fail
          refine wp_region_held (S := fun W => Below wy.heap.size wy W) (by kernel_rfl) ?_
          change wpAnyH _ _ _ _ _ _ _ _ wy.drew
          have c0_0 := (Below.refl wy.heap.size wy).drew
          refine Held.tk (v := .slice Ao m cm) 0 (some 33) rfl (Held.y_move rfl rfl) c0_0 ?_
          simp only [Act.put, Z1, Z2, Z3]
          refine Held.tk (v := .int .i64 (k : Int)) 1 (some 34) rfl (Held.y_move rfl rfl) c0_0 ?_
          simp only [Act.put, Z1, Z2, Z3]
          refine Held.tk (v := .slice A1 k cm) 2 (some 35) rfl (Held.y_slice rfl f1) c0_0 ?_
          simp only [Act.put, Z1, Z2, Z3]
          refine Held.tk (v := .slice (some ⟨b, off, none⟩) n c) 4 (some 37) rfl (Held.y_move rfl rfl) c0_0 ?_
          simp only [Act.put, Z1, Z2, Z3]
          refine Held.tk (v := .int .i64 (i : Int)) 5 (some 38) rfl (Held.y_move rfl rfl) c0_0 ?_
          simp only [Act.put, Z1, Z2, Z3]
          refine Held.tk (v := .pointer (some ⟨b, off + i * 4, none⟩)) 6 (some 39) rfl (Held.y_addr rfl rfl rfl (run_addr_of 22 26 b off n c i 4 .i64 Try.underlying22 (by kernel_rfl) hlt)) c0_0 ?_
          simp only [Act.put, Z1, Z2, Z3]
          refine Held.tk (v := .agg #[.bool x.d, .int .i64 x.k, .int .i64 x.v, .int .i64 x.s]) 7 (some 40) rfl (y_load_range (n := 4) (cs := x.cells) rfl rfl Try.underlying26 rfl (by kernel_rfl) rfl (fun W hW => range_below hx hW hbw)) c0_0 ?_
          simp only [Act.put, Z1, Z2, Z3]
          refine Held.tk (v := .slice Ao m cm) 10 (some 43) rfl (Held.y_move rfl rfl) c0_0 ?_
          simp only [Act.put, Z1, Z2, Z3]
          refine Held.tk (v := .int .i64 (k : Int)) 11 (some 44) rfl (Held.y_move rfl rfl) c0_0 ?_
          simp only [Act.put, Z1, Z2, Z3]
          refine Held.tk (v := .slice A2 (m - k) c2) 12 (some 45) rfl (Held.y_slice rfl f2) c0_0 ?_
          simp only [Act.put, Z1, Z2, Z3]
          refine Held.two 3 8 (by kernel_rfl) ?_ ?_
          · refine op_append_all (k := kRec) 3 (some 36) 22 26 rfl rfl rfl rfl Try.underlying22 _ 32 info_kRec rfl wy.heap.size wy.heap.size k cm A1 (.slice none 0 0) [] (out.take k) rfl rfl (OwnL.nil _ _ _ _) (Lst.below k1 c0_0) (by simp; omega) (by omega) c0_0.size ?_
            intro v36 w1 o36 g1 m36
            have c0_1 := c0_0.grown g1 c0_0.size (fun r e => by cases e)
            refine ⟨c0_1, ?_⟩
            simp only [Act.put, Z1, Z2, Z3]
            refine Held.one 8 (by kernel_rfl) ?_
            refine op_build_lst (k := kRec) 8 (some 41) 22 26 1 _ 32 [x] rfl rfl rfl rfl Try.underlying22 info_kRec rfl rfl (by simp [Act.eval, kRec, R.cells]) (by omega) (by decide) ?_
            intro p41 w2 q41 b2 h41
            have c0_2 := c0_1.trans (b2.mono c0_1.size)
            have o36 := OwnL.below o36 b2
            refine ⟨c0_2, ?_⟩
            simp only [Act.put, Z1, Z2, Z3]
            refine Held.one 9 (by kernel_rfl) ?_
            refine op_append_all (k := kRec) 9 (some 42) 22 26 rfl rfl rfl rfl Try.underlying22 _ 32 info_kRec rfl wy.heap.size w2.heap.size 1 1 (some ⟨p41, 0, none⟩) v36 _ [x] rfl rfl o36 (lst_whole (k := kRec) q41 rfl (fun y hy => by rw [List.mem_singleton.1 hy]; exact wx)) (by simp; omega) (by omega) c0_2.size ?_
            intro v42 w3 o42 g3 m42
            have c0_3 := c0_2.grown g3 c0_2.size (fun r e => (OwnL.lt o36 r e).1)
            refine ⟨c0_3, ?_⟩
            simp only [Act.put, Z1, Z2, Z3]
            refine Held.one 13 (by kernel_rfl) ?_
            refine op_append_all (k := kRec) 13 (some 46) 22 26 rfl rfl rfl rfl Try.underlying22 _ 32 info_kRec rfl wy.heap.size wy.heap.size (m - k) c2 A2 v42 _ (out.drop k) rfl rfl o42 (Lst.below k2 c0_3) (by simp; omega) (by omega) c0_3.size ?_
            intro v46 w4 o46 g4 m46
            have c0_4 := c0_3.grown g4 c0_3.size (fun r e => (OwnL.lt o42 r e).1)
            refine ⟨c0_4, ?_⟩
            simp only [Act.put, Z1, Z2, Z3]
            refine Held.tk (v := v46) 14 (some 5) rfl (Held.y_assign rfl rfl) c0_4 ?_
            simp only [Act.put, Z1, Z2, Z3]
            refine wpAnyH_done (by kernel_rfl) ?_ _
            have dz := hst.trans (c0_4.mono hst.size)
            have oz := OwnL.less o46 hst.size
            have hins : [] ++ out.take k ++ [x] ++ out.drop k = insR seq out x := by unfold insR; rw [HM.out, HSP.out]; simp
            rw [hins] at oz
            clear hins f1 f2 k1 k2 o36 o42 o46
            go_wp2_with fail
            go_roundw
            case rel => exact ⟨i + 1, by omega, by go_num, by rw [HNX.out]; exact oz, dz⟩
            case measure => simp [intOf]; omega
          · refine op_build_lst (k := kRec) 8 (some 41) 22 26 1 _ 32 [x] rfl rfl rfl rfl Try.underlying22 info_kRec rfl rfl (by simp [Act.eval, kRec, R.cells]) (by omega) (by decide) ?_
            intro p41 w1 q41 b1 h41
            have c0_1 := c0_0.trans (b1.mono c0_0.size)
            refine ⟨c0_1, ?_⟩
            simp only [Act.put, Z1, Z2, Z3]
            refine Held.one 3 (by kernel_rfl) ?_
            refine op_append_all (k := kRec) 3 (some 36) 22 26 rfl rfl rfl rfl Try.underlying22 _ 32 info_kRec rfl wy.heap.size wy.heap.size k cm A1 (.slice none 0 0) [] (out.take k) rfl rfl (OwnL.nil _ _ _ _) (Lst.below k1 c0_1) (by simp; omega) (by omega) c0_1.size ?_
            intro v36 w2 o36 g2 m36
            have c0_2 := c0_1.grown g2 c0_1.size (fun r e => by cases e)
            have q41 := Blk.grown q41 g2 (by simp [Value.ownBlock])
            refine ⟨c0_2, ?_⟩
            simp only [Act.put, Z1, Z2, Z3]
            refine Held.one 9 (by kernel_rfl) ?_
            refine op_append_all (k := kRec) 9 (some 42) 22 26 rfl rfl rfl rfl Try.underlying22 _ 32 info_kRec rfl wy.heap.size w2.heap.size 1 1 (some ⟨p41, 0, none⟩) v36 _ [x] rfl rfl o36 (lst_whole (k := kRec) q41 rfl (fun y hy => by rw [List.mem_singleton.1 hy]; exact wx)) (by simp; omega) (by omega) c0_2.size ?_
            intro v42 w3 o42 g3 m42
            have c0_3 := c0_2.grown g3 c0_2.size (fun r e => (OwnL.lt o36 r e).1)
            refine ⟨c0_3, ?_⟩
            simp only [Act.put, Z1, Z2, Z3]
            refine Held.one 13 (by kernel_rfl) ?_
            refine op_append_all (k := kRec) 13 (some 46) 22 26 rfl rfl rfl rfl Try.underlying22 _ 32 info_kRec rfl wy.heap.size wy.heap.size (m - k) c2 A2 v42 _ (out.drop k) rfl rfl o42 (Lst.below k2 c0_3) (by simp; omega) (by omega) c0_3.size ?_
            intro v46 w4 o46 g4 m46
            have c0_4 := c0_3.grown g4 c0_3.size (fun r e => (OwnL.lt o42 r e).1)
            refine ⟨c0_4, ?_⟩
            simp only [Act.put, Z1, Z2, Z3]
            refine Held.tk (v := v46) 14 (some 5) rfl (Held.y_assign rfl rfl) c0_4 ?_
            simp only [Act.put, Z1, Z2, Z3]
            refine wpAnyH_done (by kernel_rfl) ?_ _
            have dz := hst.trans (c0_4.mono hst.size)
            have oz := OwnL.less o46 hst.size
            have hins : [] ++ out.take k ++ [x] ++ out.drop k = insR seq out x := by unfold insR; rw [HM.out, HSP.out]; simp
            rw [hins] at oz
            clear hins f1 f2 k1 k2 o36 o42 o46
            go_wp2_with fail
            go_roundw
            case rel => exact ⟨i + 1, by omega, by go_num, by rw [HNX.out]; exact oz, dz⟩
            case measure => simp [intOf]; omega
        · obtain ⟨g, rfl, _, hgw, _⟩ := own0 ho (by omega)
          have hkm : k - 1 < m := by omega
          obtain ⟨b', off', e1, _, hy⟩ := (OwnL.lst ho HOW.out).at_ hkm
          injection e1 with e1
          injection e1 with e1 e2
          subst e1
          subst e2
          have hy : wr.rangeAt g (0 + (k - 1) * 4) (out.getD (k - 1) R0).cells := hy
          have HSP := Lib.hid (show spotR seq x out k = if lead seq x (out.getD (k - 1) R0) then spotR seq x out (k - 1) else k by
            obtain ⟨q, rfl⟩ : ∃ q, k = q + 1 := ⟨k - 1, by omega⟩
            rfl)
          have HK1 := Lib.hid (show IntKind.i64.wrap ((k : Int) - 1) = ((k - 1 : Nat) : Int) by rw [IntKind.wrap_i64]; omega)
          have hgt : decide ((0 : Int) < (k : Int)) = true := by simp; omega
          generalize out.getD (k - 1) R0 = y at hy HSP
          go_wp2_with fail
          refine wp_region_held (S := fun W => Below wr.heap.size wr W) (by kernel_rfl) ?_
          change wpAnyH _ _ _ _ _ _ _ _ wr.drew
          have c0_0 := (Below.refl wr.heap.size wr).drew
          refine Held.tk (v := .int .i64 (k : Int)) 0 (some 16) rfl (Held.y_move rfl rfl) c0_0 ?_
          simp only [Act.put, Z1, Z2, Z3]
          refine Held.tk (v := .bool true) 1 (some 17) rfl (Held.y_gtr rfl rfl rfl hgt) c0_0 ?_
          simp only [Act.put, Z1, Z2, Z3]
          refine Held.tk (v := .bool true) 2 (some 18) rfl (Held.y_move rfl rfl) c0_0 ?_
          simp only [Act.put, Z1, Z2, Z3]
          refine Held.tk (v := .slice (some ⟨b, off, none⟩) n c) 3 (some 19) rfl (Held.y_move rfl rfl) c0_0 ?_
          simp only [Act.put, Z1, Z2, Z3]
          refine Held.tk (v := .int .i64 (i : Int)) 4 (some 20) rfl (Held.y_move rfl rfl) c0_0 ?_
          simp only [Act.put, Z1, Z2, Z3]
          refine Held.tk (v := .pointer (some ⟨b, off + i * 4, none⟩)) 5 (some 21) rfl (Held.y_addr rfl rfl rfl (run_addr_of 22 26 b off n c i 4 .i64 Try.underlying22 (by kernel_rfl) hlt)) c0_0 ?_
          simp only [Act.put, Z1, Z2, Z3]
          refine Held.tk (v := .agg #[.bool x.d, .int .i64 x.k, .int .i64 x.v, .int .i64 x.s]) 6 (some 22) rfl (y_load_range (n := 4) (cs := x.cells) rfl rfl Try.underlying26 rfl (by kernel_rfl) rfl (fun W hW => range_below hx hW hbw)) c0_0 ?_
          simp only [Act.put, Z1, Z2, Z3]
          refine Held.tk (v := .slice (some ⟨g, 0, none⟩) m cm) 7 (some 23) rfl (Held.y_move rfl rfl) c0_0 ?_
          simp only [Act.put, Z1, Z2, Z3]
          refine Held.tk (v := .int .i64 (k : Int)) 8 (some 24) rfl (Held.y_move rfl rfl) c0_0 ?_
          simp only [Act.put, Z1, Z2, Z3]
          refine Held.tk (v := .int .i64 ((k - 1 : Nat) : Int)) 9 (some 25) rfl (Held.y_int rfl rfl rfl (Held.run_sub 3 .i64 HK1.out)) c0_0 ?_
          simp only [Act.put, Z1, Z2, Z3]
          refine Held.tk (v := .pointer (some ⟨g, 0 + (k - 1) * 4, none⟩)) 10 (some 26) rfl (Held.y_addr rfl rfl rfl (run_addr_of 22 26 g 0 m cm (k - 1) 4 .i64 Try.underlying22 (by kernel_rfl) hkm)) c0_0 ?_
          simp only [Act.put, Z1, Z2, Z3]
          refine Held.tk (v := .agg #[.bool y.d, .int .i64 y.k, .int .i64 y.v, .int .i64 y.s]) 11 (some 27) rfl (y_load_range (n := 4) (cs := y.cells) rfl rfl Try.underlying26 rfl (by kernel_rfl) rfl (fun W hW => range_below hy hW hgw)) c0_0 ?_
          simp only [Act.put, Z1, Z2, Z3]
          refine Held.tk (v := .bool seq) 12 (some 28) rfl (Held.y_move rfl rfl) c0_0 ?_
          simp only [Act.put, Z1, Z2, Z3]
          refine Held.one 13 (by kernel_rfl) ?_
          refine Held.op_call 13 (some 29) 29 #[.agg #[.bool x.d, .int .i64 x.k, .int .i64 x.v, .int .i64 x.s], .agg #[.bool y.d, .int .i64 y.k, .int .i64 y.v, .int .i64 y.s], .bool seq] rfl rfl rfl rfl (enters_of Try.func29 (by kernel_rfl) rfl) (by simp [Act.eval])
            (rlead_any seq x y _) ?_
          rintro e w1 ⟨rfl, b1⟩
          have c0_1 := c0_0.trans (b1.mono c0_0.size)
          refine ⟨_, rfl, c0_1, ?_⟩
          simp only [Act.put, Z1, Z2, Z3]
          refine Held.tk (v := .bool (lead seq x y)) 14 (some 30) rfl (Held.y_pick rfl rfl rfl) c0_1 ?_
          simp only [Act.put, Z1, Z2, Z3]
          refine wpAnyH_done (by kernel_rfl) ?_ _
          have dz := hs2.trans (c0_1.mono hs2.size)
          cases hl : lead seq x y with
          | true =>
            rw [hl] at HSP
            have hsp2 := Lib.hid (show spotR seq x out m = spotR seq x out (k - 1) by rw [hsp.out, HSP.out]; rfl)
            clear hsp HSP
            go_wp2_with (refine Held.wpList_run (w := w1) rfl (v := .int .i64 ((k - 1 : Nat) : Int)) (Held.y_int (S := fun _ => True) rfl rfl rfl (Held.run_sub 3 .i64 HK1.out) _ trivial) ?_)
            go_roundw
            case rel => exact ⟨k - 1, by omega, rfl, hsp2, dz⟩
            case measure => simp [intOf]; omega
          | false =>
            rw [hl] at HSP
            have HSP := Lib.hid (show spotR seq x out m = k by rw [hsp.out, HSP.out]; rfl)
            have hcz := c0_1
            clear hsp hl dz
            generalize w1 = wy at hcz ⊢
            have hbw := Nat.lt_of_lt_of_le hbw hcz.size
            have hx := range_below hx hcz (by assumption)
            have hst := hst.trans (hcz.mono hst.size)
            have ho := OwnL.below ho hcz
            obtain ⟨A1, A2, c2, f1, f2, k1, k2⟩ := own_parts ho HOW.out hk
            go_wp2_with fail
            refine wp_region_held (S := fun W => Below wy.heap.size wy W) (by kernel_rfl) ?_
            change wpAnyH _ _ _ _ _ _ _ _ wy.drew
            have c0_0 := (Below.refl wy.heap.size wy).drew
            refine Held.tk (v := .slice (some ⟨g, 0, none⟩) m cm) 0 (some 33) rfl (Held.y_move rfl rfl) c0_0 ?_
            simp only [Act.put, Z1, Z2, Z3]
            refine Held.tk (v := .int .i64 (k : Int)) 1 (some 34) rfl (Held.y_move rfl rfl) c0_0 ?_
            simp only [Act.put, Z1, Z2, Z3]
            refine Held.tk (v := .slice A1 k cm) 2 (some 35) rfl (Held.y_slice rfl f1) c0_0 ?_
            simp only [Act.put, Z1, Z2, Z3]
            refine Held.tk (v := .slice (some ⟨b, off, none⟩) n c) 4 (some 37) rfl (Held.y_move rfl rfl) c0_0 ?_
            simp only [Act.put, Z1, Z2, Z3]
            refine Held.tk (v := .int .i64 (i : Int)) 5 (some 38) rfl (Held.y_move rfl rfl) c0_0 ?_
            simp only [Act.put, Z1, Z2, Z3]
            refine Held.tk (v := .pointer (some ⟨b, off + i * 4, none⟩)) 6 (some 39) rfl (Held.y_addr rfl rfl rfl (run_addr_of 22 26 b off n c i 4 .i64 Try.underlying22 (by kernel_rfl) hlt)) c0_0 ?_
            simp only [Act.put, Z1, Z2, Z3]
            refine Held.tk (v := .agg #[.bool x.d, .int .i64 x.k, .int .i64 x.v, .int .i64 x.s]) 7 (some 40) rfl (y_load_range (n := 4) (cs := x.cells) rfl rfl Try.underlying26 rfl (by kernel_rfl) rfl (fun W hW => range_below hx hW hbw)) c0_0 ?_
            simp only [Act.put, Z1, Z2, Z3]
            refine Held.tk (v := .slice (some ⟨g, 0, none⟩) m cm) 10 (some 43) rfl (Held.y_move rfl rfl) c0_0 ?_
            simp only [Act.put, Z1, Z2, Z3]
            refine Held.tk (v := .int .i64 (k : Int)) 11 (some 44) rfl (Held.y_move rfl rfl) c0_0 ?_
            simp only [Act.put, Z1, Z2, Z3]
            refine Held.tk (v := .slice A2 (m - k) c2) 12 (some 45) rfl (Held.y_slice rfl f2) c0_0 ?_
            simp only [Act.put, Z1, Z2, Z3]
            refine Held.two 3 8 (by kernel_rfl) ?_ ?_
            · refine op_append_all (k := kRec) 3 (some 36) 22 26 rfl rfl rfl rfl Try.underlying22 _ 32 info_kRec rfl wy.heap.size wy.heap.size k cm A1 (.slice none 0 0) [] (out.take k) rfl rfl (OwnL.nil _ _ _ _) (Lst.below k1 c0_0) (by simp; omega) (by omega) c0_0.size ?_
              intro v36 w1 o36 g1 m36
              have c0_1 := c0_0.grown g1 c0_0.size (fun r e => by cases e)
              refine ⟨c0_1, ?_⟩
              simp only [Act.put, Z1, Z2, Z3]
              refine Held.one 8 (by kernel_rfl) ?_
              refine op_build_lst (k := kRec) 8 (some 41) 22 26 1 _ 32 [x] rfl rfl rfl rfl Try.underlying22 info_kRec rfl rfl (by simp [Act.eval, kRec, R.cells]) (by omega) (by decide) ?_
              intro p41 w2 q41 b2 h41
              have c0_2 := c0_1.trans (b2.mono c0_1.size)
              have o36 := OwnL.below o36 b2
              refine ⟨c0_2, ?_⟩
              simp only [Act.put, Z1, Z2, Z3]
              refine Held.one 9 (by kernel_rfl) ?_
              refine op_append_all (k := kRec) 9 (some 42) 22 26 rfl rfl rfl rfl Try.underlying22 _ 32 info_kRec rfl wy.heap.size w2.heap.size 1 1 (some ⟨p41, 0, none⟩) v36 _ [x] rfl rfl o36 (lst_whole (k := kRec) q41 rfl (fun y hy => by rw [List.mem_singleton.1 hy]; exact wx)) (by simp; omega) (by omega) c0_2.size ?_
              intro v42 w3 o42 g3 m42
              have c0_3 := c0_2.grown g3 c0_2.size (fun r e => (OwnL.lt o36 r e).1)
              refine ⟨c0_3, ?_⟩
              simp only [Act.put, Z1, Z2, Z3]
              refine Held.one 13 (by kernel_rfl) ?_
              refine op_append_all (k := kRec) 13 (some 46) 22 26 rfl rfl rfl rfl Try.underlying22 _ 32 info_kRec rfl wy.heap.size wy.heap.size (m - k) c2 A2 v42 _ (out.drop k) rfl rfl o42 (Lst.below k2 c0_3) (by simp; omega) (by omega) c0_3.size ?_
              intro v46 w4 o46 g4 m46
              have c0_4 := c0_3.grown g4 c0_3.size (fun r e => (OwnL.lt o42 r e).1)
              refine ⟨c0_4, ?_⟩
              simp only [Act.put, Z1, Z2, Z3]
              refine Held.tk (v := v46) 14 (some 5) rfl (Held.y_assign rfl rfl) c0_4 ?_
              simp only [Act.put, Z1, Z2, Z3]
              refine wpAnyH_done (by kernel_rfl) ?_ _
              have dz := hst.trans (c0_4.mono hst.size)
              have oz := OwnL.less o46 hst.size
              have hins : [] ++ out.take k ++ [x] ++ out.drop k = insR seq out x := by unfold insR; rw [HM.out, HSP.out]; simp
              rw [hins] at oz
              clear hins f1 f2 k1 k2 o36 o42 o46
              go_wp2_with fail
              go_roundw
              case rel => exact ⟨i + 1, by omega, by go_num, by rw [HNX.out]; exact oz, dz⟩
              case measure => simp [intOf]; omega
            · refine op_build_lst (k := kRec) 8 (some 41) 22 26 1 _ 32 [x] rfl rfl rfl rfl Try.underlying22 info_kRec rfl rfl (by simp [Act.eval, kRec, R.cells]) (by omega) (by decide) ?_
              intro p41 w1 q41 b1 h41
              have c0_1 := c0_0.trans (b1.mono c0_0.size)
              refine ⟨c0_1, ?_⟩
              simp only [Act.put, Z1, Z2, Z3]
              refine Held.one 3 (by kernel_rfl) ?_
              refine op_append_all (k := kRec) 3 (some 36) 22 26 rfl rfl rfl rfl Try.underlying22 _ 32 info_kRec rfl wy.heap.size wy.heap.size k cm A1 (.slice none 0 0) [] (out.take k) rfl rfl (OwnL.nil _ _ _ _) (Lst.below k1 c0_1) (by simp; omega) (by omega) c0_1.size ?_
              intro v36 w2 o36 g2 m36
              have c0_2 := c0_1.grown g2 c0_1.size (fun r e => by cases e)
              have q41 := Blk.grown q41 g2 (by simp [Value.ownBlock])
              refine ⟨c0_2, ?_⟩
              simp only [Act.put, Z1, Z2, Z3]
              refine Held.one 9 (by kernel_rfl) ?_
              refine op_append_all (k := kRec) 9 (some 42) 22 26 rfl rfl rfl rfl Try.underlying22 _ 32 info_kRec rfl wy.heap.size w2.heap.size 1 1 (some ⟨p41, 0, none⟩) v36 _ [x] rfl rfl o36 (lst_whole (k := kRec) q41 rfl (fun y hy => by rw [List.mem_singleton.1 hy]; exact wx)) (by simp; omega) (by omega) c0_2.size ?_
              intro v42 w3 o42 g3 m42
              have c0_3 := c0_2.grown g3 c0_2.size (fun r e => (OwnL.lt o36 r e).1)
              refine ⟨c0_3, ?_⟩
              simp only [Act.put, Z1, Z2, Z3]
              refine Held.one 13 (by kernel_rfl) ?_
              refine op_append_all (k := kRec) 13 (some 46) 22 26 rfl rfl rfl rfl Try.underlying22 _ 32 info_kRec rfl wy.heap.size wy.heap.size (m - k) c2 A2 v42 _ (out.drop k) rfl rfl o42 (Lst.below k2 c0_3) (by simp; omega) (by omega) c0_3.size ?_
              intro v46 w4 o46 g4 m46
              have c0_4 := c0_3.grown g4 c0_3.size (fun r e => (OwnL.lt o42 r e).1)
              refine ⟨c0_4, ?_⟩
              simp only [Act.put, Z1, Z2, Z3]
              refine Held.tk (v := v46) 14 (some 5) rfl (Held.y_assign rfl rfl) c0_4 ?_
              simp only [Act.put, Z1, Z2, Z3]
              refine wpAnyH_done (by kernel_rfl) ?_ _
              have dz := hst.trans (c0_4.mono hst.size)
              have oz := OwnL.less o46 hst.size
              have hins : [] ++ out.take k ++ [x] ++ out.drop k = insR seq out x := by unfold insR; rw [HM.out, HSP.out]; simp
              rw [hins] at oz
              clear hins f1 f2 k1 k2 o36 o42 o46
              go_wp2_with fail
              go_roundw
              case rel => exact ⟨i + 1, by omega, by go_num, by rw [HNX.out]; exact oz, dz⟩
              case measure => simp [intOf]; omega
    · obtain rfl : i = n := by omega
      have HS := Lib.hid (show (rs.take i).foldl (insR seq) [] = sortR seq rs by rw [List.take_of_length_le (by rw [HL.out]; exact Nat.le_refl _)]; rfl)
      go_wp2_with fail
      go_ret
      exact ⟨_, rfl, by rw [← HS.out]; exact ho, hst⟩
end Go.Proofs.Ytbhgonnonhiocaa.Mg
namespace Go.Proofs.Ytbhgonnonhiocaa.Mg
open Go.RowKit Go.Shelf Go.Proofs.Ytbhgonnonhiocaa Mem Held Ct Rc Rs Sl
attribute [local irreducible] wpList wpListIn Calls
set_option maxRecDepth 100000 in
set_option maxHeartbeats 8000000 in
theorem rsorted_any (B : Nat) (A : Option Addr) (n c : Nat) (rs : List R) (seq : Bool) (w : World) (h : Lst kRec w B A n rs) (hB : B ≤ w.heap.size) (hn : n ≤ 1073741824) :
    Calls Try.prog 16 #[.slice A n c, .bool seq] w fun e w' => e = .returned (.bool (srtB seq rs)) ∧ Below w.heap.size w w' := by
  have HL := Lib.hid h.1
  go_enter Try.func16, Try.ntmps16
  go_wp2_with fail
  go_loopw [5] (fun i wr => ∃ k : Nat, (k + 1 ≤ n ∨ k = 0) ∧ i = .int .i64 ((k + 1 : Nat) : Int) ∧ Hid (wrongTo seq rs k = false) ∧ Below w.heap.size w wr) (fun i _ => n - (intOf i).toNat)
  case atStart => exact ⟨0, by omega, rfl, Lib.hid rfl, Below.refl _ _⟩
  case round =>
    obtain ⟨k, hk, rfl, hwr, hst⟩ := hrel
    by_cases hlt1 : k + 1 < n
    · have hlt : k < n := by omega
      have hlt' : ((k + 1 : Nat) : Int) < (n : Int) := by omega
      have hr := Lst.below h (hst.mono hB)
      obtain ⟨b, off, rfl, hb, hx⟩ := hr.at_ hlt
      obtain ⟨b', off', e1, _, hy⟩ := hr.at_ hlt1
      injection e1 with e1
      injection e1 with e1 e2
      subst e1
      subst e2
      have hx : wr.rangeAt b (off + k * 4) (rs.getD k R0).cells := hx
      have hy : wr.rangeAt b (off + (k + 1) * 4) (rs.getD (k + 1) R0).cells := hy
      have HWR := Lib.hid (show wrongTo seq rs (k + 1) = lead seq (rs.getD (k + 1) R0) (rs.getD k R0) by rw [wrongTo_succ, hwr.out, Bool.false_or])
      have HSB := Lib.hid (show wrongTo seq rs (k + 1) = true → srtB seq rs = false from fun e => by
        unfold srtB
        rw [HL.out]
        unfold wrongTo at e ⊢
        obtain ⟨j, hj, hj2⟩ := List.any_eq_true.1 e
        rw [Bool.not_eq_false', List.any_eq_true]
        exact ⟨j, List.mem_range.2 (by have := List.mem_range.1 hj; omega), hj2⟩)
      have HK1 := Lib.hid (show IntKind.i64.wrap (((k + 1 : Nat) : Int) - 1) = (k : Int) by rw [IntKind.wrap_i64]; omega)
      have HP1 := Lib.hid (show IntKind.i64.wrap (((k + 1 : Nat) : Int) + 1) = ((k + 1 + 1 : Nat) : Int) by rw [IntKind.wrap_i64]; omega)
      have hbw : b < wr.heap.size := Nat.lt_of_lt_of_le hb (Nat.le_trans hB hst.size)
      generalize rs.getD k R0 = x at hx HWR
      generalize rs.getD (k + 1) R0 = y at hy HWR
      clear hr
      go_wp2_with fail
      refine wp_region_held (S := fun W => Below wr.heap.size wr W) (by kernel_rfl) ?_
      change wpAnyH _ _ _ _ _ _ _ _ wr.drew
      have c0_0 := (Below.refl wr.heap.size wr).drew
      refine Held.tk (v := .slice (some ⟨b, off, none⟩) n c) 0 (some 12) rfl (Held.y_move rfl rfl) c0_0 ?_
      simp only [Act.put, Z1, Z2, Z3]
      refine Held.tk (v := .int .i64 ((k + 1 : Nat) : Int)) 1 (some 13) rfl (Held.y_move rfl rfl) c0_0 ?_
      simp only [Act.put, Z1, Z2, Z3]
      refine Held.tk (v := .pointer (some ⟨b, off + (k + 1) * 4, none⟩)) 2 (some 14) rfl (Held.y_addr rfl rfl rfl (run_addr_of 22 26 b off n c (k + 1) 4 .i64 Try.underlying22 (by kernel_rfl) hlt1)) c0_0 ?_
      simp only [Act.put, Z1, Z2, Z3]
      refine Held.tk (v := .agg #[.bool y.d, .int .i64 y.k, .int .i64 y.v, .int .i64 y.s]) 3 (some 15) rfl (y_load_range (n := 4) (cs := y.cells) rfl rfl Try.underlying26 rfl (by kernel_rfl) rfl (fun W hW => range_below hy hW hbw)) c0_0 ?_
      simp only [Act.put, Z1, Z2, Z3]
      refine Held.tk (v := .slice (some ⟨b, off, none⟩) n c) 4 (some 16) rfl (Held.y_move rfl rfl) c0_0 ?_
      simp only [Act.put, Z1, Z2, Z3]
      refine Held.tk (v := .int .i64 ((k + 1 : Nat) : Int)) 5 (some 17) rfl (Held.y_move rfl rfl) c0_0 ?_
      simp only [Act.put, Z1, Z2, Z3]
      refine Held.tk (v := .int .i64 (k : Int)) 6 (some 18) rfl (Held.y_int rfl rfl rfl (Held.run_sub 3 .i64 HK1.out)) c0_0 ?_
      simp only [Act.put, Z1, Z2, Z3]
      refine Held.tk (v := .pointer (some ⟨b, off + k * 4, none⟩)) 7 (some 19) rfl (Held.y_addr rfl rfl rfl (run_addr_of 22 26 b off n c k 4 .i64 Try.underlying22 (by kernel_rfl) hlt)) c0_0 ?_
      simp only [Act.put, Z1, Z2, Z3]
      refine Held.tk (v := .agg #[.bool x.d, .int .i64 x.k, .int .i64 x.v, .int .i64 x.s]) 8 (some 20) rfl (y_load_range (n := 4) (cs := x.cells) rfl rfl Try.underlying26 rfl (by kernel_rfl) rfl (fun W hW => range_below hx hW hbw)) c0_0 ?_
      simp only [Act.put, Z1, Z2, Z3]
      refine Held.tk (v := .bool seq) 9 (some 21) rfl (Held.y_move rfl rfl) c0_0 ?_
      simp only [Act.put, Z1, Z2, Z3]
      refine Held.one 10 (by kernel_rfl) ?_
      refine Held.op_call 10 (some 22) 29 #[.agg #[.bool y.d, .int .i64 y.k, .int .i64 y.v, .int .i64 y.s], .agg #[.bool x.d, .int .i64 x.k, .int .i64 x.v, .int .i64 x.s], .bool seq] rfl rfl rfl rfl (enters_of Try.func29 (by kernel_rfl) rfl) (by simp [Act.eval])
        (rlead_any seq y x _) ?_
      rintro e w1 ⟨rfl, b1⟩
      have c0_1 := c0_0.trans (b1.mono c0_0.size)
      refine ⟨_, rfl, c0_1, ?_⟩
      simp only [Act.put, Z1, Z2, Z3]
      refine wpAnyH_done (by kernel_rfl) ?_ _
      have dz := hst.trans (c0_1.mono hst.size)
      cases hl : lead seq y x with
      | true =>
        rw [hl] at HWR
        have HS := Lib.hid (HSB.out HWR.out)
        go_wp2_with fail
        go_ret
        exact ⟨Mem.ret_bool HS.out.symm, dz⟩
      | false =>
        rw [hl] at HWR
        go_wp2_with (refine Held.wpList_run (w := w1) rfl (v := .int .i64 ((k + 1 + 1 : Nat) : Int)) (Held.y_int (S := fun _ => True) rfl rfl rfl (Held.run_add 3 .i64 HP1.out) _ trivial) ?_)
        go_roundw
        case rel => exact ⟨k + 1, by omega, rfl, HWR, dz⟩
        case measure => simp [intOf]; omega
    · have hnlt : ¬ ((k + 1 : Nat) : Int) < (n : Int) := by omega
      have HS := Lib.hid (show srtB seq rs = true by rw [srtB, HL.out, show n - 1 = k by omega, hwr.out]; rfl)
      go_wp2_with fail
      go_ret
      exact ⟨Mem.ret_bool HS.out.symm, hst⟩
set_option maxRecDepth 100000 in
set_option maxHeartbeats 8000000 in
theorem rsplit_any (B B2 : Nat) (A A2 : Option Addr) (n c n2 c2 : Nat) (rs rs2 : List R) (seq : Bool) (w : World) (h : Lst kRec w B A n rs) (h2 : Lst kRec w B2 A2 n2 rs2) (hB : B ≤ w.heap.size) (hB2 : B2 ≤ w.heap.size) (hn : n ≤ 262144) (hn2 : n2 ≤ 262144) :
    Calls Try.prog 11 #[.slice A n c, .slice A2 n2 c2, .bool seq] w fun e w' => ∃ A5 c5 A6 c6, e = .returned (.tuple #[.slice A5 n c5, .slice A6 n2 c6]) ∧ Lst kRec w' w'.heap.size A5 n ((sortR seq (rs ++ rs2)).take rs.length) ∧ Lst kRec w' w'.heap.size A6 n2 ((sortR seq (rs ++ rs2)).drop rs.length) ∧ Below w.heap.size w w' := by
  have HL := Lib.hid h.1
  have HLS := Lib.hid (show (rs ++ rs2).length = n + n2 by rw [List.length_append, h.1, h2.1])
  have HLT := Lib.hid (show (sortR seq (rs ++ rs2)).length = n + n2 by rw [sortR_length, List.length_append, h.1, h2.1])
  have HW := Lib.hid (show ∀ x ∈ rs ++ rs2, x.wf from fun x hx => (List.mem_append.1 hx).elim (h.2.1 x) (h2.2.1 x))
  have HWS := Lib.hid (show ∀ x ∈ sortR seq (rs ++ rs2), x.wf from fun x hx => HW.out x ((sortR_perm seq (rs ++ rs2)).mem_iff.1 hx))
  go_enter Try.func11, Try.ntmps11
  go_wp2_with (first
    | (at_builtin; refine wpList_append_all (k := kRec) (w := w) rfl _ _ 22 26 rfl Try.underlying22 _ 32 info_kRec rfl w.heap.size B n c A (.slice none 0 0) [] rs rfl rfl (OwnL.nil _ _ _ _) h (by simp; omega) (by omega) (Nat.le_refl _) ?_; intro v1 w1 o1 g1 m1; have b1 : Below w.heap.size w w1 := (Below.refl _ w).grown g1 (Nat.le_refl _) (fun r e => by cases e))
    | (at_builtin; refine wpList_append_all (k := kRec) (w := w1) rfl _ _ 22 26 rfl Try.underlying22 _ 32 info_kRec rfl w.heap.size B2 n2 c2 A2 v1 ([] ++ rs) rs2 rfl rfl o1 (Lst.below h2 (b1.mono hB2)) (by rw [List.nil_append, HL.out]; omega) (by omega) b1.size ?_; intro v2 w2 o2 g2 m2; have b2 : Below w.heap.size w w2 := b1.grown g2 b1.size (fun r e => (OwnL.lt o1 r e).1); have o2 : OwnL kRec 26 w2 w.heap.size v2 (rs ++ rs2) := o2; obtain ⟨A3, n3, c3, rfl, hn3, _⟩ := OwnL.form2 o2; obtain rfl : n3 = n + n2 := hn3.out.symm.trans HLS.out; clear hn3))
  refine (rsort_any w2.heap.size A3 (n + n2) c3 (rs ++ rs2) seq w2 (OwnL.lst o2 HW.out) (Nat.le_refl _) (by omega)).mono ?_
  rintro e w3 ⟨v, rfl, o3, b3⟩
  obtain ⟨A4, n4, c4, rfl, hn4, _⟩ := OwnL.form2 o3
  obtain rfl : n4 = n + n2 := hn4.out.symm.trans HLT.out
  have b3 := b2.trans (b3.mono b2.size)
  clear hn4 o2 o1
  obtain ⟨A5, A6, c6, f1, f2, k1, k2⟩ := own_parts o3 HWS.out (show n ≤ n + n2 by omega)
  rw [show n + n2 - n = n2 by omega] at f2 k2
  go_wp2_with fail
  refine wp_region_held (S := fun W => Below w3.heap.size w3 W) (by kernel_rfl) ?_
  change wpAnyH _ _ _ _ _ _ _ _ w3.drew
  have c0_0 := (Below.refl w3.heap.size w3).drew
  refine Held.tk (v := .slice A4 (n + n2) c4) 0 (some 15) rfl (Held.y_move rfl rfl) c0_0 ?_
  simp only [Act.put, Z1, Z2, Z3]
  refine Held.tk (v := .slice A n c) 1 (some 16) rfl (Held.y_move rfl rfl) c0_0 ?_
  simp only [Act.put, Z1, Z2, Z3]
  refine Held.tk (v := .int .i64 (n : Int)) 2 (some 17) rfl (Held.y_len rfl rfl Try.underlying22) c0_0 ?_
  simp only [Act.put, Z1, Z2, Z3]
  refine Held.tk (v := .slice A5 n c4) 3 (some 18) rfl (Held.y_slice rfl f1) c0_0 ?_
  simp only [Act.put, Z1, Z2, Z3]
  refine Held.tk (v := .slice A4 (n + n2) c4) 4 (some 19) rfl (Held.y_move rfl rfl) c0_0 ?_
  simp only [Act.put, Z1, Z2, Z3]
  refine Held.tk (v := .slice A n c) 5 (some 20) rfl (Held.y_move rfl rfl) c0_0 ?_
  simp only [Act.put, Z1, Z2, Z3]
  refine Held.tk (v := .int .i64 (n : Int)) 6 (some 21) rfl (Held.y_len rfl rfl Try.underlying22) c0_0 ?_
  simp only [Act.put, Z1, Z2, Z3]
  refine Held.tk (v := .slice A6 n2 c6) 7 (some 22) rfl (Held.y_slice rfl f2) c0_0 ?_
  simp only [Act.put, Z1, Z2, Z3]
  refine Held.tk (v := .slice A5 n c4) 8 (some 6) rfl (Held.y_assign rfl rfl) c0_0 ?_
  simp only [Act.put, Z1, Z2, Z3]
  refine Held.tk (v := .slice A6 n2 c6) 9 (some 7) rfl (Held.y_assign rfl rfl) c0_0 ?_
  simp only [Act.put, Z1, Z2, Z3]
  refine wpAnyH_done (by kernel_rfl) ?_ _
  have dz := b3.trans (c0_0.mono b3.size)
  go_wp2_with fail
  go_ret2
  rw [HL.out]
  exact ⟨_, _, _, _, rfl, (Lst.below k1 c0_0).more c0_0.size, (Lst.below k2 c0_0).more c0_0.size, dz⟩
theorem wpList_build_recL {ops : Array Oper} {rest : List Oper} {o : Oper} {a : Act} {w : World} {Q : Exit → Act → World → Prop} (hgd : o.guard = none) (y : Operand) (ho : o.op = .buildSlice 22 1 #[(0, y)]) (f : R) (hy : a.eval y = .agg #[.bool f.d, .int .i64 f.k, .int .i64 f.v, .int .i64 f.s]) (hf : f.wf)
    (h : ∀ w', Lst kRec w' w'.heap.size (some ⟨w.heap.size, 0, none⟩) 1 [f] → w.grownBy w' none → wpList Try.prog ops Q rest (a.put o.dst (.slice (some ⟨w.heap.size, 0, none⟩) 1 1)) w') : wpList Try.prog ops Q (o :: rest) a w :=
  wpList_build_rec hgd y ho f hy fun w' q g _ => h w' (lst_whole (k := kRec) q rfl (fun y hy => by rw [List.mem_singleton.1 hy]; exact hf)) g
set_option maxRecDepth 100000 in
set_option maxHeartbeats 8000000 in
theorem awake14_any (w : World) : Calls Try.prog 8 #[] w fun e w' => e = .returned (.bool true) ∧ Below w.heap.size w w' := by
  go_enter Try.func8, Try.ntmps8
  go_wp2_with (first
    | (refine wpList_build_blk rfl 26 #[(1, .const (.int .i64 3))] rfl #[.bool false, .int .i64 3, .int .i64 0, .int .i64 0] (by kernel_rfl) ?_)
    | (refine wpList_build_blk rfl 26 #[(1, .const (.int .i64 1))] rfl #[.bool false, .int .i64 1, .int .i64 0, .int .i64 0] (by kernel_rfl) ?_)
    | (refine wpList_build_recL (w := w) rfl _ rfl ⟨false, 3, 0, 0⟩ rfl ⟨rfl, rfl, rfl⟩ ?_; intro w1 l1 g1)
    | (refine wpList_build_recL (w := w1) rfl _ rfl ⟨false, 1, 0, 0⟩ rfl ⟨rfl, rfl, rfl⟩ ?_; intro w2 l2 g2))
  have b1 : Below w.heap.size w w1 := (Below.refl _ w).grown g1 (Nat.le_refl _) (by simp)
  have b2 : Below w1.heap.size w1 w2 := (Below.refl _ w1).grown g2 (Nat.le_refl _) (by simp)
  refine (split_any w1.heap.size w2.heap.size _ _ 1 1 1 1 _ _ true w2 (Lst.below l1 b2) l2 b2.size (Nat.le_refl _) (by omega) (by omega)).mono ?_
  rintro e w3 ⟨v, v2, rfl, o1, o2, b3⟩
  have b3 := (b1.trans (b2.mono b1.size)).trans (b3.mono (Nat.le_trans b1.size b2.size))
  have e1 : (sortR true ([⟨false, 3, 0, 0⟩] ++ [⟨false, 1, 0, 0⟩])).take [(⟨false, 3, 0, 0⟩ : R)].length = [⟨false, 1, 0, 0⟩] := by decide +kernel
  have e2 : (sortR true ([⟨false, 3, 0, 0⟩] ++ [⟨false, 1, 0, 0⟩])).drop [(⟨false, 3, 0, 0⟩ : R)].length = [⟨false, 3, 0, 0⟩] := by decide +kernel
  rw [e1] at o1
  rw [e2] at o2
  obtain ⟨A, c, rfl, _⟩ := OwnL.form o1
  obtain ⟨A2, c2, rfl, _⟩ := OwnL.form o2
  obtain ⟨b, off, rfl, _, hx⟩ := (OwnL.lst o1 (fun y hy => by rw [List.mem_singleton.1 hy]; exact ⟨rfl, rfl, rfl⟩)).at_ (i := 0) (by decide)
  obtain ⟨b', off', rfl, _, hy⟩ := (OwnL.lst o2 (fun y hy => by rw [List.mem_singleton.1 hy]; exact ⟨rfl, rfl, rfl⟩)).at_ (i := 0) (by decide)
  have cx : w3.cell? ⟨b, off + 1, none⟩ = some (.int .i64 1) := hx 1 _ rfl
  have cy : w3.cell? ⟨b', off' + 1, none⟩ = some (.int .i64 3) := hy 1 _ rfl
  clear hx hy o1 o2 e1 e2 l1 l2
  go_wp2_with (first
    | (refine Held.wpList_run (w := w3) rfl (v := .pointer (some ⟨b, off + 0 * 4, none⟩)) (Held.y_addr (S := fun _ => True) rfl rfl rfl (run_addr_of 22 26 b off 1 c 0 4 .i64 Try.underlying22 (by kernel_rfl) (by omega)) _ trivial) ?_)
    | (refine Held.wpList_run (w := w3) rfl (v := .pointer (some ⟨b', off' + 0 * 4, none⟩)) (Held.y_addr (S := fun _ => True) rfl rfl rfl (run_addr_of 22 26 b' off' 1 c2 0 4 .i64 Try.underlying22 (by kernel_rfl) (by omega)) _ trivial) ?_))
  go_ret
  exact ⟨rfl, b3⟩
end Go.Proofs.Ytbhgonnonhiocaa.Mg
namespace Go.Proofs.Ytbhgonnonhiocaa.Rs
open Go.RowKit Go.ChangeShapes Go.WideShapes Mem Rc
theorem cells_four {w : World} {base : Nat} {a : Addr} {cs : List Value} (h : w.cells? base a 4 = some cs) : cs.length = 4 ∧ ∀ j, j < 4 → w.cell? (a.add j) = cs[j]? := by
  obtain ⟨h1, h2, h3⟩ := World.cells?_some h
  exact ⟨h2, h3⟩
section
variable {H : Type} {enc : TypeId × Value → H} {w : World} {base : Nat} {held : Bool}
theorem open_one {n : Nat} {cs : List Value} {x : DataW H × List MemPlace} (h : DataW.trod enc Try.prog w base (fun _ => true) held n 26 cs = some x) : ∃ r : R, cs = r.cells ∧ r.wf := by
  obtain ⟨f0, f1, f2, f3, hu, ⟨o0, t0⟩, ⟨o1, t1⟩, ⟨o2, t2⟩, ⟨o3, t3⟩⟩ := rec_fields
  obtain ⟨xs, m, _, _, hl, hxl, hel⟩ := DataW.trod_struct hu h
  have cb : Try.prog.cellsOf 4 = 1 := by kernel_rfl
  have ci : Try.prog.cellsOf 2 = 1 := by kernel_rfl
  have c4 : Try.prog.cellsOf 26 = 4 := by kernel_rfl
  rw [c4] at hl
  have hx4 : xs.length = 4 := hxl
  have e0 := hel 0 f0 rfl
  have e1 := hel 1 f1 rfl
  have e2 := hel 2 f2 rfl
  have e3 := hel 3 f3 rfl
  rw [o0, t0, cb] at e0
  rw [o1, t1, ci] at e1
  rw [o2, t2, ci] at e2
  rw [o3, t3, ci] at e3
  obtain ⟨z0, q0⟩ := field_bool (by omega) Try.underlying4 e0 (by simp [hx4])
  obtain ⟨z1, q1, w1⟩ := field_int (by omega) Try.underlying2 e1 (by simp [hx4])
  obtain ⟨z2, q2, w2⟩ := field_int (by omega) Try.underlying2 e2 (by simp [hx4])
  obtain ⟨z3, q3, w3⟩ := field_int (by omega) Try.underlying2 e3 (by simp [hx4])
  refine ⟨⟨z0, z1, z2, z3⟩, ?_, w1, w2, w3⟩
  apply List.ext_getElem?
  intro i
  match i with
  | 0 => exact q0
  | 1 => exact q1
  | 2 => exact q2
  | 3 => exact q3
  | i + 4 => rw [List.getElem?_eq_none (by omega), List.getElem?_eq_none (by simp [R.cells])]
set_option maxRecDepth 100000 in
theorem open_recs {A : Option Addr} {m c : Nat} {d : DataW H} {p : List MemPlace} (h : DataW.Trod enc Try.prog w base (fun _ => true) held 22 (.slice A m c) d p) : ∃ rs, Recs w w.heap.size A m rs ∧ m ≤ c ∧ c ≤ maxLen := by
  obtain ⟨fuel, hf⟩ := h
  simp only [Value.cells] at hf
  rcases DataW.trod_slice Try.underlying22 hf with ⟨hcs, _⟩ | ⟨a, len, cap, elems, rest, n, _, hcs, _, hb, hl, hm, hlen, hel, _, _⟩
  · simp at hcs
    obtain ⟨rfl, rfl, rfl⟩ := hcs
    exact ⟨[], Recs.nil _ _ _, Nat.le_refl _, by simp [maxLen]⟩
  · simp at hcs
    obtain ⟨rfl, rfl, rfl⟩ := hcs
    have c4 : Try.prog.cellsOf 26 = 4 := by kernel_rfl
    have each : ∀ i, i < m → ∃ r : R, r.wf ∧ ∀ j, j < 4 → w.cell? ((a.add (i * 4)).add j) = r.cells[j]? := fun i hi => by
      have hi' : i < elems.length := by rw [hlen]; exact hi
      have e := hel i hi
      rw [c4, List.getElem?_eq_getElem hi', Option.bind_eq_some_iff] at e
      obtain ⟨cs, hc, ht⟩ := e
      obtain ⟨r, rfl, hw⟩ := open_one ht
      exact ⟨r, hw, (cells_four hc).2⟩
    have hch : ∃ F : Nat → R, ∀ i, i < m → (F i).wf ∧ ∀ j, j < 4 → w.cell? ((a.add (i * 4)).add j) = (F i).cells[j]? :=
      ⟨fun i => if h : i < m then Classical.choose (each i h) else R0, fun i hi => by
        have := Classical.choose_spec (each i hi)
        simp only [hi, dif_pos]
        exact this⟩
    obtain ⟨F, hF⟩ := hch
    refine ⟨(List.range m).map F, ⟨by simp, fun r hr => ?_, fun h0 => ?_⟩, hl, hm⟩
    · obtain ⟨i, hi, rfl⟩ := List.mem_map.1 hr
      exact (hF i (List.mem_range.1 hi)).1
    · have h00 := (hF 0 h0).2 0 (by omega)
      have hsome : ∃ u, w.cell? (a.add 0) = some u := ⟨_, by simpa [R.cells, Addr.add] using h00⟩
      obtain ⟨u, hu⟩ := hsome
      obtain ⟨b, off, spot⟩ := a
      have hspot : spot = none := by simpa [Addr.add] using World.cell?_spot hu
      subst hspot
      have hlt : b < w.heap.size := by simpa [Addr.add] using World.block_lt_of_cell? w _ hu
      have ea : ∀ o j : Nat, (Addr.mk b o none).add j = ⟨b, o + j, none⟩ := fun o j => by unfold Addr.add; split <;> simp_all
      refine ⟨b, off, rfl, hlt, fun q v hv => ?_⟩
      have hq := (List.getElem?_eq_some_iff.1 hv).1
      rw [flat_length] at hq
      simp only [List.length_map, List.length_range] at hq
      have hv' := hv
      rw [show q = q / 4 * 4 + q % 4 by omega, flat_at _ (q / 4) (q % 4) (by omega) (by simp; omega)] at hv'
      have hg : ((List.range m).map F).getD (q / 4) R0 = F (q / 4) := by
        rw [List.getD_eq_getElem?_getD, List.getElem?_map, List.getElem?_range (by omega)]
        rfl
      rw [hg, ← (hF (q / 4) (by omega)).2 (q % 4) (by omega), ea, ea, Nat.add_assoc, show q / 4 * 4 + q % 4 = q by omega] at hv'
      exact hv'
end
end Go.Proofs.Ytbhgonnonhiocaa.Rs
