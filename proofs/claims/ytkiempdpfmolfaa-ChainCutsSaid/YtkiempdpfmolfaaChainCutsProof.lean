/-
  The law ChainCuts of package dominolaw15 returns true for every program, every list of records, and every list of cuts: records that are cut anywhere, the carry going on, tell the same as in one.
-/
import Derived.Test.YtkiempdpfmolfaaRows
import Derived.WalkKit
import Derived.ProofKit
import Derived.OpenShut
import Derived.ShutString
import Derived.ChangeOld
import Derived.Below
import Derived.Test.YtkiempdpfmolfaaB9
import Derived.Test.YtkiempdpfmolfaaB10
import Derived.Test.YtkiempdpfmolfaaB8
import Derived.Test.YtkiempdpfmolfaaB11
namespace Go.Proofs.Ytkiempdpfmolfaa.chainCuts
open Go.ChangeShapes Go.WideShapes Go.ChangeAt Go.RowKit
open Go.ChangeMaps (open_string shut_string)
open Go.Shelf Go.Proofs.Ytkiempdpfmolfaa Mem Held Ct Rc Rs Sl Vm Mg Cn
theorem own : ownKnob Try.prog.godebug = none := by kernel_rfl
theorem laidOut : laidOutB Try.prog = true := by kernel_rfl
def IsRow (k : IntKind) (w : World) (a : Option Addr) (len cap : Nat) (zs : List Int) : Prop :=
  (a = none ∧ len = 0 ∧ cap = 0 ∧ zs = []) ∨
  ∃ x, a = some x ∧ len ≤ cap ∧ cap ≤ maxLen ∧ zs.length = cap ∧ (∀ i, i < zs.length → w.cell? (x.add i) = some (.int k (zs.getD i 0))) ∧ ∀ n ∈ zs, (Lit.int k n).wf = true
attribute [local irreducible] wpList wpListIn Calls
section
variable {P : Program} {ops : Array Oper} {rest : List Oper} {o : Oper} {a : Act} {w : World} {Q : Exit → Act → World → Prop}
theorem op_assign (i : Nat) (d : Option Tmp) {K : Act → World → Prop} {x : Operand} (v : Value) (hi : ops[i]? = some o) (hd : o.dst = d) (hw : Region.wanted o (yielded ops a.tmps) = true) (ho : o.op = .assign x) (hx : a.eval x = v) (h : K (a.put d v) w) : wpOp P ops Q i K a w := by
  subst hd
  subst hx
  refine op_wp i hi hw ?_
  unfold Oper.wp execOp
  simp only [ho, Sem.run_pure]
  exact h
theorem wpList_append_allG {α : Type} {k : St α} (hw : Region.wanted o (yielded ops a.tmps) = true) (s x : Operand) (ts e : TypeId) (ho : o.op = .call { callee := .builtin .append, args := #[s, x], argTypes := #[ts, ts] }) (hu : P.underlying ts = some (.slice e)) (z : Value) (bytes : Nat) (hinfo : (P.info? e).map (fun i => (i.zero, i.size, i.bytes)) = some (some z, k.s, bytes)) (hz : z.cells.size = k.s)
    (base B m c : Nat) (A : Option Addr) (v : Value) (xs ys : List α) (hs : a.eval s = v) (hx : a.eval x = .slice A m c) (hown : OwnL k e w base v xs) (hq : Lst k w B A m ys) (hm : xs.length + m ≤ 1048576) (hby : bytes ≤ 1048576) (hbase : base ≤ w.heap.size)
    (h : ∀ v' w', OwnL k e w' base v' (xs ++ ys) → w.grownBy w' v.ownBlock → (v'.ownBlock = v.ownBlock ∨ v'.ownBlock = some w.heap.size) → wpList P ops Q rest (a.put o.dst v') w') : wpList P ops Q (o :: rest) a w := by
  obtain ⟨v', w', h1, h2, h3, h4⟩ := run_append_all (P := P) w ts o.type e hu z bytes hinfo hz base B m c A v xs ys hown hq hm hby hbase
  refine wpList_step fun _ hK => ?_
  rw [if_pos hw]
  exact Lib.wp_append_run w s x ts ts ho _ _ hs hx _ w' h1 (hK _ _ (h v' w' h2 h3 h4))
end
theorem front_zero {P : Program} {t e : TypeId} (sz : Nat) (ht : P.underlying t = some (.slice e)) (hs : (P.info? e).map (·.size) = some sz) (A : Option Addr) (n cap : Nat) : ∃ A', ∀ w : World, (Instr.sliceAt t (.slice A n cap) none (some (.int .i64 (0 : Nat))) none).run P w = .ok (.slice A' 0 cap) w := by
  have he : P.elem t = e := by simp [Program.elem, ht]
  have ht' : P.underlying t = some (.slice (P.elem t)) := by rw [he]; exact ht
  obtain ⟨inf, hi, h1⟩ := Option.map_eq_some_iff.1 hs
  refine ⟨if cap = 0 then A else A.map (·.add 0), fun w => ?_⟩
  have hz : (sizeOf e).run P w = .ok sz w := by simp [sizeOf, typeInfo, hi, h1]
  rw [run_sliceAt_slice w t _ _ _ _ ht', run_slice_h w t _ n cap ht' .i64 _ (by omega) (by omega), he, hz]
  simp [Result.andThen, sliced, eq_comm]
structure Rst (W : World) (gq : Nat) (A : Option Addr) (nr cr : Nat) (xs : List R) : Prop where
  len : xs.length = nr
  room : nr ≤ cr
  cells : 0 < nr → ∃ off, A = some ⟨gq, off, none⟩ ∧ W.rangeAt gq off (Sl.flat kRec xs)
section
variable {W W' : World} {gq nr cr : Nat} {A : Option Addr} {xs : List R}
theorem Rst.grown (h : Rst W gq A nr cr xs) {row : Option Nat} (hg : W.grownBy W' row) (hr : some gq ≠ row) (hl : gq < W.heap.size) : Rst W' gq A nr cr xs :=
  ⟨h.len, h.room, fun h0 => by
    obtain ⟨off, e, hx⟩ := h.cells h0
    exact ⟨off, e, fun j v hv => by
      have := hx j v hv
      unfold World.cell? at this ⊢
      rw [hg.block gq hl hr]
      exact this⟩⟩
theorem Rst.lst (h : Rst W gq A nr cr xs) (hl : gq < W.heap.size) (hw : ∀ x ∈ xs, x.wf) : Lst kRec W W.heap.size A nr xs :=
  ⟨h.len, hw, fun h0 => by
    obtain ⟨off, e, hx⟩ := h.cells h0
    exact ⟨gq, off, e, hl, hx⟩⟩
theorem flat_drop (xs : List R) (h : Nat) : (Sl.flat kRec xs).drop (h * 4) = Sl.flat kRec (xs.drop h) := by
  rcases Nat.lt_or_ge xs.length h with c | c
  · rw [List.drop_eq_nil_of_le (by rw [Sl.flat_length]; exact Nat.mul_le_mul_right 4 (Nat.le_of_lt c)), List.drop_eq_nil_of_le (Nat.le_of_lt c)]
    rfl
  · have e : Sl.flat kRec xs = Sl.flat kRec (xs.take h) ++ Sl.flat kRec (xs.drop h) := by rw [← Sl.flat_append, List.take_append_drop]
    rw [e, List.drop_left' (by rw [Sl.flat_length, List.length_take, Nat.min_eq_left c]; rfl)]
theorem Rst.cut (hs : Rst W gq A nr cr xs) {h : Nat} (hh : h ≤ nr) :
    ∃ A1 A2 c2, (∀ U : World, (Instr.sliceAt 27 (.slice A nr cr) none (some (.int .i64 (h : Int))) none).run Try.prog U = .ok (.slice A1 h cr) U) ∧ (∀ U : World, (Instr.sliceAt 27 (.slice A nr cr) (some (.int .i64 (h : Int))) none none).run Try.prog U = .ok (.slice A2 (nr - h) c2) U) ∧
      Rst W gq A1 h cr (xs.take h) ∧ Rst W gq A2 (nr - h) c2 (xs.drop h) := by
  have r1 : ∀ A1, (0 < h → A1 = A) → Rst W gq A1 h cr (xs.take h) := fun A1 e => ⟨by rw [List.length_take, hs.len]; omega, Nat.le_trans hh hs.room, fun h0 => by
    obtain ⟨off, e2, hx⟩ := hs.cells (by omega)
    refine ⟨off, (e h0).trans e2, fun j v hv => hx j v ?_⟩
    have e3 : Sl.flat kRec xs = Sl.flat kRec (xs.take h) ++ Sl.flat kRec (xs.drop h) := by rw [← Sl.flat_append, List.take_append_drop]
    rw [e3, List.getElem?_append_left (List.getElem?_eq_some_iff.1 hv).1]
    exact hv⟩
  rcases Nat.eq_zero_or_pos h with h0 | h0
  · subst h0
    obtain ⟨A1, hA1⟩ := front_zero (P := Try.prog) (t := 27) (e := 26) 4 Try.underlying27 info_rec A nr cr
    rcases Nat.eq_zero_or_pos nr with z | z
    · subst z
      obtain ⟨A2, c2, hA2⟩ := run_back_nil (P := Try.prog) (t := 27) (e := 26) 4 Try.underlying27 info_rec A 0 cr
      exact ⟨A1, A2, c2, hA1, hA2, r1 A1 (fun h => absurd h (by omega)), ⟨by rw [List.length_drop, hs.len], Nat.zero_le _, fun h => absurd h (by omega)⟩⟩
    · obtain ⟨off, rfl, hx⟩ := hs.cells z
      exact ⟨A1, _, _, hA1, run_back_s (P := Try.prog) (t := 27) (e := 26) 4 Try.underlying27 info_rec gq off nr cr (l := 0) (by omega) (by have := hs.room; omega), r1 A1 (fun h => absurd h (by omega)), ⟨by rw [List.length_drop, hs.len], by have := hs.room; omega, fun _ => ⟨off + 0 * 4, rfl, by rw [Nat.zero_mul, Nat.add_zero]; exact hx⟩⟩⟩
  · obtain ⟨off, rfl, hx⟩ := hs.cells (by omega)
    have hf := run_front_s (P := Try.prog) (t := 27) (e := 26) 4 Try.underlying27 info_rec gq off nr cr (h := h) (Nat.le_trans hh hs.room)
    rcases Nat.lt_or_ge h nr with c | c
    · exact ⟨_, _, _, hf, run_back_s (P := Try.prog) (t := 27) (e := 26) 4 Try.underlying27 info_rec gq off nr cr (l := h) hh (by have := hs.room; omega), r1 _ (fun _ => rfl), ⟨by rw [List.length_drop, hs.len], by have := hs.room; omega, fun _ => ⟨off + h * 4, rfl, fun j v hv => by
        rw [Nat.add_assoc]
        refine hx (h * 4 + j) v ?_
        rw [← flat_drop, List.getElem?_drop] at hv
        exact hv⟩⟩⟩
    · obtain rfl : h = nr := by omega
      obtain ⟨A2, c2, hA2⟩ := run_back_nil (P := Try.prog) (t := 27) (e := 26) 4 Try.underlying27 info_rec (some ⟨gq, off, none⟩) h cr
      refine ⟨_, A2, c2, hf, ?_, r1 _ (fun _ => rfl), ⟨by rw [List.length_drop, hs.len], by omega, fun h => absurd h (by omega)⟩⟩
      rw [Nat.sub_self]
      exact hA2
theorem rst_of_own {base lc gz : Nat} {v : Value} (h : OwnL kRec 26 W base v xs) (hw : ∀ x ∈ xs, x.wf) (hb : lc < base) (hz : gz ≠ lc) (hzl : gz < W.heap.size) : ∃ A n c, v = .slice A n c ∧ ∃ gq, gq ≠ lc ∧ gq < W.heap.size ∧ Rst W gq A n c xs := by
  obtain ⟨A, c, rfl, hc, _⟩ := OwnL.form h
  refine ⟨A, xs.length, c, rfl, ?_⟩
  rcases Nat.eq_zero_or_pos xs.length with h0 | h0
  · exact ⟨gz, hz, hzl, rfl, hc, fun h1 => absurd h1 (by omega)⟩
  · obtain ⟨b, off, rfl, hbl, hx⟩ := (OwnL.lst h hw).2.2 h0
    exact ⟨b, by have := (h.lt b rfl).1; omega, hbl, rfl, hc, fun _ => ⟨off, rfl, hx⟩⟩
end
set_option maxRecDepth 100000 in
set_option maxHeartbeats 32000000 in
theorem start (K : Int) (Am Af Ae A Ac : Option Addr) (nm cm nf cf ne ce n c nc ccap : Nat) (lm_ lf_ le_ : List O) (rs : List R) (zs : List Int) (w : World) (hm : Lst kO w w.heap.size Am nm lm_) (hf : Lst kO w w.heap.size Af nf lf_) (he : Lst kO w w.heap.size Ae ne le_) (hr : Recs w w.heap.size A n rs) (hcu : Ints w .i64 w.heap.size Ac nc zs) (l1 : nm ≤ 9223372036854775807) (l2 : nf ≤ 9223372036854775807) (l3 : ne ≤ 9223372036854775807) :
    Calls Try.prog 4 #[.agg #[.int .i64 K, .slice Am nm cm, .slice Af nf cf, .slice Ae ne ce], .slice A n c, .slice Ac nc ccap] w fun e w' => e = .returned (.bool true) ∧ Below w.heap.size w w' := by
  by_cases b0 : n > 60
  · have hn : decide ((60 : Int) < (n : Int)) = true := by simp; omega
    go_enter Try.func4, Try.ntmps4
    go_wp2_with (first
      | (refine wpList_box_blk (w := w) rfl 24 _ rfl #[.int .i64 K, .slice Am nm cm, .slice Af nf cf, .slice Ae ne ce] rfl ?_; intro u1 q1 g1 z1; have b1 : Below w.heap.size w u1 := (Below.refl _ w).grown g1 (Nat.le_refl _) (by simp); clear g1 z1)
      | (refine wpList_run (w := u1) rfl (v := .bool true) (Held.y_gtr (S := fun _ => True) rfl rfl rfl hn _ trivial) ?_))
    refine (awake15_any u1).mono ?_
    rintro e w1 ⟨rfl, b2⟩
    go_wp2_with fail
    go_ret
    exact ⟨rfl, b1.trans (b2.mono b1.size)⟩
  have hn : decide ((60 : Int) < (n : Int)) = false := by simp; omega
  by_cases b1 : nc > 10
  · have hnc : decide ((10 : Int) < (nc : Int)) = true := by simp; omega
    go_enter Try.func4, Try.ntmps4
    go_wp2_with (first
      | (refine wpList_box_blk (w := w) rfl 24 _ rfl #[.int .i64 K, .slice Am nm cm, .slice Af nf cf, .slice Ae ne ce] rfl ?_; intro u1 q1 g1 z1; have b1 : Below w.heap.size w u1 := (Below.refl _ w).grown g1 (Nat.le_refl _) (by simp); clear g1 z1)
      | (refine wpList_run (w := u1) rfl (v := .bool false) (Held.y_gtr (S := fun _ => True) rfl rfl rfl hn _ trivial) ?_)
      | (refine wpList_run (w := u1) rfl (v := .bool true) (Held.y_gtr (S := fun _ => True) rfl rfl rfl hnc _ trivial) ?_))
    refine (awake15_any u1).mono ?_
    rintro e w1 ⟨rfl, b2⟩
    go_wp2_with fail
    go_ret
    exact ⟨rfl, b1.trans (b2.mono b1.size)⟩
  have hnc : decide ((10 : Int) < (nc : Int)) = false := by simp; omega
  have ln : n ≤ 60 := by omega
  have lc : nc ≤ 10 := by omega
  clear b0 b1
  go_enter Try.func4, Try.ntmps4
  go_wp2_with (first
    | (refine wpList_box_blk (w := w) rfl 24 _ rfl #[.int .i64 K, .slice Am nm cm, .slice Af nf cf, .slice Ae ne ce] rfl ?_; intro u1 q1 g1 z1; have b1 : Below w.heap.size w u1 := (Below.refl _ w).grown g1 (Nat.le_refl _) (by simp); clear g1 z1)
    | (refine wpList_run (w := u1) rfl (v := .bool false) (Held.y_gtr (S := fun _ => True) rfl rfl rfl hn _ trivial) ?_)
    | (refine wpList_run (w := u1) rfl (v := .bool false) (Held.y_gtr (S := fun _ => True) rfl rfl rfl hnc _ trivial) ?_)
    | (refine wpList_load_blk (w := u1) rfl 24 _ rfl w.heap.size 4 rfl 24 _ q1 _ Try.underlying24 rfl info_prog rfl ?_))
  refine (rcheck_any w.heap.size K Am Af Ae nm cm nf cf ne ce lm_ lf_ le_ u1 (hm.below b1) (hf.below b1) (he.below b1) b1.size l1 l2 l3).mono ?_
  rintro e u2 ⟨rfl, b2⟩
  have q2 := q1.after b2
  have b2 := b1.trans (b2.mono b1.size)
  clear b1 q1
  cases hC : checkB K lm_ lf_ le_ with
  | false =>
    have HCE := Lib.hid (show checkE K lm_ lf_ le_ = 8 by rw [checkE, if_neg (by rw [hC]; simp)])
    rw [HCE.out]
    go_wp2_with fail
    refine (awake15_any u2).mono ?_
    rintro e w1 ⟨rfl, b3⟩
    go_wp2_with fail
    go_ret
    exact ⟨rfl, b2.trans (b3.mono b2.size)⟩
  | true =>
  have HCE := Lib.hid (show checkE K lm_ lf_ le_ = 0 by rw [checkE, if_pos hC])
  rw [HCE.out]
  have hlr := recs_lst hr
  have HFW := Lib.hid (fun a b ha hb => Sp.foldV_wf (K := K) (m := lm_) (e := le_) hf.2.1 a b ha hb)
  have HGW := Lib.hid (fun a b ha hb => Sp.finishV_wf (K := K) (m := lm_) (f := lf_) he.2.1 a b ha hb)
  have HRW := Lib.hid hr.2.1
  have HRL := Lib.hid hr.1
  have HZL := Lib.hid hcu.1
  have HXSW := Lib.hid (outs_wf HFW.out HGW.out RD rs wf_dead hr.2.1)
  have HXSL := Lib.hid ((outs_length (F := (foldV K lm_ lf_ le_)) (G := (finishV K lm_ lf_ le_)) RD rs).trans hr.1)
  go_wp2_with (first
    | (refine wpList_load_blk (w := u2) rfl 24 _ rfl w.heap.size 4 rfl 24 _ q2 _ Try.underlying24 rfl info_prog rfl ?_)
    | (refine wpList_build_blk rfl 26 #[_] rfl #[.bool true, .int .i64 0, .int .i64 0, .int .i64 0] (by kernel_rfl) ?_))
  refine (step_any w.heap.size w.heap.size K Am Af Ae A nm cm nf cf ne ce n c lm_ lf_ le_ RD rs u2 (hm.below b2) (hf.below b2) (he.below b2) (hlr.below b2) b2.size b2.size (by omega) hC wf_dead).mono ?_
  rintro e u3 ⟨vx, rfl, ox, b3⟩
  rw [bare_dead] at ox
  rw [bare_dead]
  obtain ⟨Ax, cxw, rfl, _⟩ := OwnL.form ox
  have lx := OwnL.lst ox HXSW.out
  rw [HXSL.out] at lx
  rw [HXSL.out]
  have q3 := q2.after b3
  have b3 := b2.trans (b3.mono b2.size)
  obtain ⟨EE, hEE⟩ : ∃ EE, ends (foldV K lm_ lf_ le_) RD rs = EE := ⟨_, rfl⟩
  obtain ⟨XS, hXS⟩ : ∃ XS, outs (foldV K lm_ lf_ le_) (finishV K lm_ lf_ le_) RD rs = XS := ⟨_, rfl⟩
  rw [hXS] at lx
  rw [hEE]
  have HEE := Lib.hid hEE
  have HXS := Lib.hid hXS
  have HXW0 := Lib.hid (hXS ▸ HXSW.out)
  have HXL0 := Lib.hid (hXS ▸ HXSL.out)
  clear ox q2 b2 hEE hXS HXSW HXSL HCE
  go_wp2_with (first
    | (refine wpList_alloc_blk (w := u3) rfl 26 rfl _ zero_rec ?_; intro u4 q4 g4 z4)
    | (refine wpList_store_blk (w := u4) rfl 26 _ _ rfl u3.heap.size 4 rfl 26 _ #[.bool EE.d, .int .i64 EE.k, .int .i64 EE.v, .int .i64 EE.s] rfl q4 info_rec rfl rfl (by kernel_rfl) ?_; intro v8 q8 g8 z8; have b8 : Below u3.heap.size u3 v8 := ((Below.refl _ u3).grown g4 (Nat.le_refl _) (by simp)).grown g8 g4.size (fun r e => by cases e; exact Nat.le_refl _); have qp8 := q3.after b8; have lx := (Lst.below lx b8).more b8.size; have b8 := b3.trans (b8.mono b3.size); clear q4 g4 g8 z4 z8 q3 b3)
    | (refine wpList_build_blk rfl 26 #[_] rfl #[.bool true, .int .i64 0, .int .i64 0, .int .i64 0] (by kernel_rfl) ?_)
    | (refine wpList_alloc_blk (w := v8) rfl 26 rfl _ zero_rec ?_; intro u9 q9 g9 z9)
    | (refine wpList_store_blk (w := u9) rfl 26 _ _ rfl v8.heap.size 4 rfl 26 _ #[.bool true, .int .i64 0, .int .i64 0, .int .i64 0] rfl q9 info_rec rfl rfl (by kernel_rfl) ?_; intro u5 q5 g5 z5; have b5 : Below v8.heap.size v8 u5 := ((Below.refl _ v8).grown g9 (Nat.le_refl _) (by simp)).grown g5 g9.size (fun r e => by cases e; exact Nat.le_refl _); clear q9 g9 g5 z9 z5)
    | (refine wpList_append_all (k := kRec) (w := u5) rfl _ _ 27 26 rfl Try.underlying27 _ 32 info_kRec rfl u5.heap.size w.heap.size n c A (.slice none 0 0) [] rs rfl rfl (OwnL.nil _ _ _ _) (hlr.below (b8.trans (b5.mono b8.size))) (by simp; omega) (by omega) (Nat.le_refl _) ?_; intro vr u6 o6 g6 n6))
  have o6 : OwnL kRec 26 u6 u5.heap.size vr rs := o6
  have lv8 : v8.heap.size < u5.heap.size := q5.lt
  have l56 := g6.size
  have q6 := q5.grown g6 (by simp [Value.ownBlock])
  have bV0 : Below v8.heap.size v8 u6 := b5.grown g6 b5.size (fun r ee => by cases ee)
  have hwv := qp8.lt
  have hlw := b8.size
  obtain ⟨A6, n6', c6, rfl, gq, hgc, hgq, rst0⟩ := rst_of_own (lc := v8.heap.size) (gz := w.heap.size) o6 HRW.out lv8 (by omega) (by omega)
  clear o6 q5 b5 g6 n6 hlr
  go_wp2_with fail
  go_loopw [9, 11, 12] (fun u v iv wr => ∃ i q : Nat, i ≤ nc ∧ q ≤ n ∧ iv = .int .i64 i ∧ OwnL kRec 26 wr u6.heap.size u (outs (foldV K lm_ lf_ le_) (finishV K lm_ lf_ le_) RD (rs.take q)) ∧ Blk wr v8.heap.size 26 #[.bool (ends (foldV K lm_ lf_ le_) RD (rs.take q)).d, .int .i64 (ends (foldV K lm_ lf_ le_) RD (rs.take q)).k, .int .i64 (ends (foldV K lm_ lf_ le_) RD (rs.take q)).v, .int .i64 (ends (foldV K lm_ lf_ le_) RD (rs.take q)).s] ∧ (∃ Ar nr cr, v = .slice Ar nr cr ∧ Rst wr gq Ar nr cr (rs.drop q)) ∧ u6.heap.size ≤ wr.heap.size ∧ Below v8.heap.size v8 wr) (fun _ _ iv _ => nc - (intOf iv).toNat)
  case atStart => exact ⟨0, 0, by omega, by omega, rfl, by rw [List.take_zero]; exact OwnL.nil _ _ _ _, by rw [List.take_zero]; exact q6, ⟨_, _, _, rfl, by rw [List.drop_zero]; exact rst0⟩, Nat.le_refl _, bV0⟩
  case round =>
    clear q6 bV0 rst0
    obtain ⟨i, q, hi, hq, rfl, ow, qc, ⟨Ar, nr, cr, rfl, rst⟩, HSZ, bV⟩ := hrel
    have hgw : gq < wr.heap.size := Nat.lt_of_lt_of_le hgq HSZ
    have qpr := qp8.below bV hwv
    have bw := b8.trans (bV.mono hlw)
    have hccw : (ends (foldV K lm_ lf_ le_) RD (rs.take q)).wf := ends_wf HFW.out RD (rs.take q) wf_dead (fun r hr => HRW.out r (List.mem_of_mem_take hr))
    have hbb : bareR (ends (foldV K lm_ lf_ le_) RD (rs.take q)) = ends (foldV K lm_ lf_ le_) RD (rs.take q) := by rw [bare_ends, bare_dead]
    have HNR := Lib.hid (show nr = n - q by rw [← rst.len, List.length_drop, HRL.out])
    have hnr60 : nr ≤ 60 := by have := HNR.out; omega
    obtain ⟨Ao, mo, co0, rfl, HOL, _, _⟩ := OwnL.form2 ow
    have ow0 := ow
    have hlw8 := bV.size
    have hmo : mo ≤ 60 := by
      have e1 := HOL.out
      rw [outs_length, List.length_take, HRL.out] at e1
      omega
    by_cases hlt : i < nc
    · obtain ⟨b, off, rfl, hbw, hcell⟩ := (hcu.below bw).at_ hlt
      have hbwr : b < wr.heap.size := Nat.lt_of_lt_of_le hbw bw.size
      generalize zs.getD i 0 = x at hcell
      obtain ⟨h, hh, hhn⟩ : ∃ h : Nat, wrap64 ((IntKind.u64.wrap x).tmod ((nr : Int) + 1)) = (h : Int) ∧ h ≤ nr := by
        have hu0 : 0 ≤ IntKind.u64.wrap x := by rw [IntKind.wrap_u64]; omega
        have h1 : 0 ≤ IntKind.u64.wrap x % ((nr : Int) + 1) := Int.emod_nonneg _ (by omega)
        have h2 : IntKind.u64.wrap x % ((nr : Int) + 1) < (nr : Int) + 1 := Int.emod_lt_of_pos _ (by omega)
        rw [Int.tmod_eq_emod_of_nonneg hu0]
        exact ⟨(IntKind.u64.wrap x % ((nr : Int) + 1)).toNat, by unfold wrap64; omega, by omega⟩
      have hadd : IntKind.i64.wrap ((nr : Int) + 1) = (nr : Int) + 1 := by rw [IntKind.wrap_i64]; omega
      have hadu : IntKind.u64.wrap ((nr : Int) + 1) = (nr : Int) + 1 := by rw [IntKind.wrap_u64]; omega
      have hne1 : ¬ (nr : Int) + 1 = 0 := by omega
      obtain ⟨A1, A2, c2c, hfr, hbk, rst1, rst2⟩ := rst.cut hhn
      have HOUT := Lib.hid (show outs (foldV K lm_ lf_ le_) (finishV K lm_ lf_ le_) RD (rs.take (q + h)) = outs (foldV K lm_ lf_ le_) (finishV K lm_ lf_ le_) RD (rs.take q) ++ outs (foldV K lm_ lf_ le_) (finishV K lm_ lf_ le_) (ends (foldV K lm_ lf_ le_) RD (rs.take q)) ((rs.drop q).take h) by rw [List.take_add, outs_append])
      have HEN2 := Lib.hid (show ends (foldV K lm_ lf_ le_) RD (rs.take (q + h)) = ends (foldV K lm_ lf_ le_) (ends (foldV K lm_ lf_ le_) RD (rs.take q)) ((rs.drop q).take h) by rw [List.take_add, ends_append])
      have HDROP := Lib.hid (show rs.drop (q + h) = (rs.drop q).drop h by rw [List.drop_drop])
      have hl1w : ∀ x ∈ (rs.drop q).take h, x.wf := fun y hy => HRW.out y (List.mem_of_mem_drop (List.mem_of_mem_take hy))
      have hll := rst1.len
      have lst1 := rst1.lst hgw hl1w
      generalize ends (foldV K lm_ lf_ le_) RD (rs.take q) = cc at qc HOUT HEN2 hccw hbb
      generalize outs (foldV K lm_ lf_ le_) (finishV K lm_ lf_ le_) RD (rs.take q) = out at ow HOL HOUT
      generalize (rs.drop q).take h = l1 at HOUT HEN2 hl1w hll lst1 rst1
      generalize (rs.drop q).drop h = l2 at HDROP rst2
      have HXW := Lib.hid (outs_wf HFW.out HGW.out cc l1 hccw hl1w)
      have HXL := Lib.hid ((outs_length (F := (foldV K lm_ lf_ le_)) (G := (finishV K lm_ lf_ le_)) cc l1).trans hll)
      obtain ⟨c2, hc2⟩ : ∃ c2, ends (foldV K lm_ lf_ le_) cc l1 = c2 := ⟨_, rfl⟩
      rw [hc2] at HEN2
      have HSTEP := Lib.hid (fun (W : World) (hW : Below wr.heap.size wr W) => show Calls Try.prog 10 #[.agg #[.int .i64 K, .slice Am nm cm, .slice Af nf cf, .slice Ae ne ce], .agg #[.bool cc.d, .int .i64 cc.k, .int .i64 cc.v, .int .i64 cc.s], .slice A1 h cr] W (fun e w' => ∃ v, e = .returned (.tuple #[v, .agg #[.bool c2.d, .int .i64 c2.k, .int .i64 c2.v, .int .i64 c2.s]]) ∧ OwnL kRec 26 w' W.heap.size v (outs (foldV K lm_ lf_ le_) (finishV K lm_ lf_ le_) cc l1) ∧ Below W.heap.size W w') by
        have bW := bw.trans (hW.mono bw.size)
        have hs := step_any w.heap.size wr.heap.size K Am Af Ae A1 nm cm nf cf ne ce h cr lm_ lf_ le_ cc l1 W (hm.below bW) (hf.below bW) (he.below bW) (Lst.below lst1 hW) bW.size hW.size (by omega) hC hccw
        rw [hbb, hc2] at hs
        exact hs)
      clear rst rst1 lst1 hc2 hccw hbb hll hl1w
      have hi' : (i : Int) < (nc : Int) := by omega
      have hi0 : (0 : Int) ≤ (i : Int) := by omega
      go_wp2_with fail
      rw [hh]
      refine wp_region_held (S := fun W => Below wr.heap.size wr W) (by kernel_rfl) ?_
      change wpAnyH _ _ _ _ _ _ _ _ wr.drew
      have c0_0 := (Below.refl wr.heap.size wr).drew
      refine Held.tk (v := .agg #[.int .i64 K, .slice Am nm cm, .slice Af nf cf, .slice Ae ne ce]) 0 (some 60) rfl (Held.y_load_blk (n := 4) rfl rfl Try.underlying24 rfl info_prog rfl (fun X hX => qpr.below hX qpr.lt)) c0_0 ?_
      simp only [Act.put, Z1, Z2, Z3]
      refine Held.tk (v := .agg #[.bool cc.d, .int .i64 cc.k, .int .i64 cc.v, .int .i64 cc.s]) 1 (some 61) rfl (Held.y_load_blk (n := 4) rfl rfl Try.underlying26 rfl info_rec rfl (fun X hX => qc.below hX qc.lt)) c0_0 ?_
      simp only [Act.put, Z1, Z2, Z3]
      refine Held.tk (v := .slice Ar nr cr) 2 (some 62) rfl (Held.y_move rfl rfl) c0_0 ?_
      simp only [Act.put, Z1, Z2, Z3]
      refine Held.tk (v := .int .i64 (h : Int)) 3 (some 63) rfl (Held.y_move rfl rfl) c0_0 ?_
      simp only [Act.put, Z1, Z2, Z3]
      refine Held.tk (v := .slice A1 h cr) 4 (some 64) rfl (Held.y_slice rfl hfr) c0_0 ?_
      simp only [Act.put, Z1, Z2, Z3]
      refine Held.two 5 9 (by kernel_rfl) ?_ ?_
      · refine Held.op_call 5 (some 65) 10 #[.agg #[.int .i64 K, .slice Am nm cm, .slice Af nf cf, .slice Ae ne ce], .agg #[.bool cc.d, .int .i64 cc.k, .int .i64 cc.v, .int .i64 cc.s], .slice A1 h cr] rfl rfl rfl rfl (enters_of Try.func10 (by kernel_rfl) rfl) (by simp [Act.eval])
          (HSTEP.out _ c0_0) ?_
        rintro e wc ⟨vx, rfl, ox, bx⟩
        have c0_c := c0_0.trans (bx.mono c0_0.size)
        have ox0 := ox
        refine ⟨_, rfl, c0_c, ?_⟩
        simp only [Act.put, Z1, Z2, Z3]
        refine Held.tk (v := .tuple #[vx, .agg #[.bool c2.d, .int .i64 c2.k, .int .i64 c2.v, .int .i64 c2.s]]) 6 (some 59) rfl (Held.y_move rfl rfl) c0_c ?_
        simp only [Act.put, Z1, Z2, Z3]
        refine Held.tk (v := vx) 7 (some 66) rfl (Held.y_extract rfl rfl rfl) c0_c ?_
        simp only [Act.put, Z1, Z2, Z3]
        refine Held.tk (v := .agg #[.bool c2.d, .int .i64 c2.k, .int .i64 c2.v, .int .i64 c2.s]) 8 (some 67) rfl (Held.y_extract rfl rfl rfl) c0_c ?_
        simp only [Act.put, Z1, Z2, Z3]
        refine Held.one 9 (by kernel_rfl) ?_
        refine op_alloc_blk 9 (some 15) 26 _ rfl rfl rfl rfl zero_rec ?_
        intro p15 wp r15 bp hp
        have lp15 := r15.lt
        have q15 := Nat.le_trans c0_c.size hp.out
        have c0_p := c0_c.trans (bp.mono c0_c.size)
        have ox := OwnL.below ox bp
        refine ⟨c0_p, ?_⟩
        simp only [Act.put, Z1, Z2, Z3]
        refine Held.tk (v := vx) 10 (some 14) rfl (Held.y_assign rfl rfl) c0_p ?_
        simp only [Act.put, Z1, Z2, Z3]
        refine Held.one 11 (by kernel_rfl) ?_
        refine op_store_blk 11 none 26 p15 4 26 _ #[.bool c2.d, .int .i64 c2.k, .int .i64 c2.v, .int .i64 c2.s] rfl rfl rfl rfl rfl rfl r15 info_rec rfl rfl (by kernel_rfl) ?_
        intro ws r15 gs
        have c0_s := c0_p.grown gs c0_p.size (fun r ee => by cases ee; exact q15)
        have ox := OwnL.kept ox gs (.inr fun ee => by have := (OwnL.lt ox0 _ ee).2; have := hp.out; omega)
        refine ⟨c0_s, ?_⟩
        simp only [Act.put]
        refine wpAnyH_done (by kernel_rfl) ?_ _
        obtain ⟨Ax, cx, rfl, _⟩ := OwnL.form ox
        rw [HXL.out]
        have hsz := c0_s.size
        have ow := OwnL.below ow c0_s
        have qc := qc.after c0_s
        have rst2 := rst2.grown (grown_of_below c0_s none) (by simp) hgw
        have bV := bV.trans (c0_s.mono bV.size)
        have HSZ := Nat.le_trans HSZ c0_s.size
        have hop15 : (Value.slice Ao mo co0).ownBlock ≠ some p15 := fun ee => by have := (OwnL.lt ow0 _ ee).2; omega
        have hgw := Nat.lt_of_lt_of_le hgw hsz
        have hpc : v8.heap.size < p15 := by omega
        clear c0_s c0_0
        go_wp2_with fail
        refine Held.wp_region_bar (s := 9) (T := fun X => Blk X p15 26 #[.bool c2.d, .int .i64 c2.k, .int .i64 c2.v, .int .i64 c2.s]) (by kernel_rfl) ?_
        change wpAnyB _ _ _ _ _ _ _ _ _ ws.drew
        have DB := (Below.refl ws.heap.size ws).drew
        have T0 : Blk ws.drew p15 26 #[.bool c2.d, .int .i64 c2.k, .int .i64 c2.v, .int .i64 c2.s] := r15.after DB
        have ox := OwnL.below ox DB
        have ow := OwnL.below ow DB
        have qc := qc.after DB
        have rst2 := rst2.grown (grown_of_below DB none) (by simp) hgw
        have bV := bV.trans (DB.mono bV.size)
        have HSZ := Nat.le_trans HSZ DB.size
        generalize ws.drew = wd at DB T0 ox ow qc rst2 bV HSZ ⊢
        refine Held.takeB (v := .slice Ao mo co0) 0 (some 68) [9] rfl rfl (by kernel_rfl) (by kernel_rfl) (by kernel_rfl) (by kernel_rfl) (fun _ _ _ h => h) rfl (Held.y_move rfl rfl) T0 ?_
        simp only [Act.put, Z1, Z2, Z3]
        refine Held.takeB (v := .slice Ax h cx) 1 (some 69) [9] rfl rfl (by kernel_rfl) (by kernel_rfl) (by kernel_rfl) (by kernel_rfl) (fun _ _ _ h => h) rfl (Held.y_move rfl rfl) T0 ?_
        simp only [Act.put, Z1, Z2, Z3]
        refine Held.takeB (v := .agg #[.bool c2.d, .int .i64 c2.k, .int .i64 c2.v, .int .i64 c2.s]) 3 (some 71) [9] rfl rfl (by kernel_rfl) (by kernel_rfl) (by kernel_rfl) (by kernel_rfl) (fun _ _ _ h => h) rfl (Held.y_load_blk (n := 4) rfl rfl Try.underlying26 rfl info_rec rfl (fun X hX => hX)) T0 ?_
        simp only [Act.put, Z1, Z2, Z3]
        refine Held.takeB (v := .slice Ar nr cr) 4 (some 72) [9] rfl rfl (by kernel_rfl) (by kernel_rfl) (by kernel_rfl) (by kernel_rfl) (fun _ _ _ h => h) rfl (Held.y_move rfl rfl) T0 ?_
        simp only [Act.put, Z1, Z2, Z3]
        refine Held.takeB (v := .int .i64 (h : Int)) 5 (some 73) [9] rfl rfl (by kernel_rfl) (by kernel_rfl) (by kernel_rfl) (by kernel_rfl) (fun _ _ _ h => h) rfl (Held.y_move rfl rfl) T0 ?_
        simp only [Act.put, Z1, Z2, Z3]
        refine Held.takeB (v := .slice A2 (nr - h) c2c) 6 (some 74) [9] rfl rfl (by kernel_rfl) (by kernel_rfl) (by kernel_rfl) (by kernel_rfl) (fun _ _ _ h => h) rfl (Held.y_slice rfl hbk) T0 ?_
        simp only [Act.put, Z1, Z2, Z3]
        have lox := OwnL.lst ox HXW.out
        rw [HXL.out] at lox
        refine Held.oneB 2 (by kernel_rfl) ?_
        refine op_append_all (k := kRec) 2 (some 70) 27 26 rfl rfl rfl rfl Try.underlying27 _ 32 info_kRec rfl u6.heap.size wd.heap.size h cx Ax (.slice Ao mo co0) out (outs (foldV K lm_ lf_ le_) (finishV K lm_ lf_ le_) cc l1) rfl rfl ow lox (by rw [HOL.out]; omega) (by omega) HSZ ?_
        intro v5 w5 o5 g5 n5
        have hrow : ∀ r, (Value.slice Ao mo co0).ownBlock = some r → u6.heap.size ≤ r := fun r ee => (OwnL.lt ow r ee).1
        have T5 : Blk w5 p15 26 #[.bool c2.d, .int .i64 c2.k, .int .i64 c2.v, .int .i64 c2.s] := T0.grown g5 (fun ee => hop15 ee.symm)
        have qc := qc.grown g5 (fun ee => by have := hrow _ ee.symm; omega)
        have rst2 := rst2.grown g5 (fun ee => by have := hrow _ ee.symm; omega) (by have := DB.size; omega)
        have bV := bV.grown g5 bV.size (fun r ee => by have := hrow r ee; omega)
        have HSZ := Nat.le_trans HSZ g5.size
        refine ⟨fun _ => T5, ?_⟩
        simp only [Act.put, Z1, Z2, Z3]
        refine Held.takeB (v := v5) 7 (some 9) [9] rfl rfl (by kernel_rfl) (by kernel_rfl) (by kernel_rfl) (by kernel_rfl) (fun _ _ _ h => h) rfl (Held.y_assign rfl rfl) T5 ?_
        simp only [Act.put, Z1, Z2, Z3]
        refine Held.oneB 8 (by kernel_rfl) ?_
        refine op_store_blk 8 none 26 v8.heap.size 4 26 _ #[.bool c2.d, .int .i64 c2.k, .int .i64 c2.v, .int .i64 c2.s] rfl rfl rfl rfl rfl rfl qc info_rec rfl rfl (by kernel_rfl) ?_
        intro w6 q6 g6
        have T6 : Blk w6 p15 26 #[.bool c2.d, .int .i64 c2.k, .int .i64 c2.v, .int .i64 c2.s] := T5.grown g6 (by intro ee; injection ee with ee; omega)
        have o5 := OwnL.kept o5 g6 (.inr fun ee => by have := (OwnL.lt o5 _ ee).1; omega)
        have rst2 := rst2.grown g6 (by intro ee; injection ee with ee; omega) (by have := g5.size; have := DB.size; omega)
        have bV := bV.grown g6 bV.size (fun r ee => by cases ee; omega)
        have HSZ := Nat.le_trans HSZ g6.size
        refine ⟨fun _ => T6, ?_⟩
        simp only [Act.put, Z1, Z2, Z3]
        refine Held.oneB 9 (by kernel_rfl) ?_
        refine op_assign 9 (some 11) (.slice A2 (nr - h) c2c) rfl rfl rfl rfl rfl ?_
        refine ⟨(fun h => by cases h.symm.trans (show _ = true by kernel_rfl)), ?_⟩
        simp only [Act.put, Z1, Z2, Z3]
        refine doneB (by kernel_rfl) ?_ _
        go_wp2_with fail
        go_roundw
        case rel => exact ⟨i + 1, q + h, by omega, by have := HNR.out; omega, by go_num, by rw [HOUT.out]; exact o5, by rw [HEN2.out]; exact q6, ⟨A2, nr - h, c2c, rfl, by rw [HDROP.out]; exact rst2⟩, HSZ, bV⟩
        case measure => simp [intOf]; omega
      · refine op_alloc_blk 9 (some 15) 26 _ rfl rfl rfl rfl zero_rec ?_
        intro p15 wp r15 bp hp
        have lp15 := r15.lt
        have q15 := Nat.le_trans c0_0.size hp.out
        have c0_1 := c0_0.trans (bp.mono c0_0.size)
        refine ⟨c0_1, ?_⟩
        simp only [Act.put, Z1, Z2, Z3]
        refine Held.one 5 (by kernel_rfl) ?_
        refine Held.op_call 5 (some 65) 10 #[.agg #[.int .i64 K, .slice Am nm cm, .slice Af nf cf, .slice Ae ne ce], .agg #[.bool cc.d, .int .i64 cc.k, .int .i64 cc.v, .int .i64 cc.s], .slice A1 h cr] rfl rfl rfl rfl (enters_of Try.func10 (by kernel_rfl) rfl) (by simp [Act.eval])
          (HSTEP.out _ c0_1) ?_
        rintro e wc ⟨vx, rfl, ox, bx⟩
        have c0_c := c0_1.trans (bx.mono c0_1.size)
        have r15 := r15.after bx
        refine ⟨_, rfl, c0_c, ?_⟩
        simp only [Act.put, Z1, Z2, Z3]
        refine Held.tk (v := .tuple #[vx, .agg #[.bool c2.d, .int .i64 c2.k, .int .i64 c2.v, .int .i64 c2.s]]) 6 (some 59) rfl (Held.y_move rfl rfl) c0_c ?_
        simp only [Act.put, Z1, Z2, Z3]
        refine Held.tk (v := vx) 7 (some 66) rfl (Held.y_extract rfl rfl rfl) c0_c ?_
        simp only [Act.put, Z1, Z2, Z3]
        refine Held.tk (v := .agg #[.bool c2.d, .int .i64 c2.k, .int .i64 c2.v, .int .i64 c2.s]) 8 (some 67) rfl (Held.y_extract rfl rfl rfl) c0_c ?_
        simp only [Act.put, Z1, Z2, Z3]
        refine Held.tk (v := vx) 10 (some 14) rfl (Held.y_assign rfl rfl) c0_c ?_
        simp only [Act.put, Z1, Z2, Z3]
        refine Held.one 11 (by kernel_rfl) ?_
        refine op_store_blk 11 none 26 p15 4 26 _ #[.bool c2.d, .int .i64 c2.k, .int .i64 c2.v, .int .i64 c2.s] rfl rfl rfl rfl rfl rfl r15 info_rec rfl rfl (by kernel_rfl) ?_
        intro ws r15 gs
        have c0_s := c0_c.grown gs c0_c.size (fun r ee => by cases ee; exact q15)
        have ox := OwnL.kept ox gs (.inr fun ee => by have := (OwnL.lt ox _ ee).1; omega)
        refine ⟨c0_s, ?_⟩
        simp only [Act.put]
        refine wpAnyH_done (by kernel_rfl) ?_ _
        obtain ⟨Ax, cx, rfl, _⟩ := OwnL.form ox
        rw [HXL.out]
        have hsz := c0_s.size
        have ow := OwnL.below ow c0_s
        have qc := qc.after c0_s
        have rst2 := rst2.grown (grown_of_below c0_s none) (by simp) hgw
        have bV := bV.trans (c0_s.mono bV.size)
        have HSZ := Nat.le_trans HSZ c0_s.size
        have hop15 : (Value.slice Ao mo co0).ownBlock ≠ some p15 := fun ee => by have := (OwnL.lt ow0 _ ee).2; omega
        have hgw := Nat.lt_of_lt_of_le hgw hsz
        have hpc : v8.heap.size < p15 := by omega
        clear c0_s c0_0
        go_wp2_with fail
        refine Held.wp_region_bar (s := 9) (T := fun X => Blk X p15 26 #[.bool c2.d, .int .i64 c2.k, .int .i64 c2.v, .int .i64 c2.s]) (by kernel_rfl) ?_
        change wpAnyB _ _ _ _ _ _ _ _ _ ws.drew
        have DB := (Below.refl ws.heap.size ws).drew
        have T0 : Blk ws.drew p15 26 #[.bool c2.d, .int .i64 c2.k, .int .i64 c2.v, .int .i64 c2.s] := r15.after DB
        have ox := OwnL.below ox DB
        have ow := OwnL.below ow DB
        have qc := qc.after DB
        have rst2 := rst2.grown (grown_of_below DB none) (by simp) hgw
        have bV := bV.trans (DB.mono bV.size)
        have HSZ := Nat.le_trans HSZ DB.size
        generalize ws.drew = wd at DB T0 ox ow qc rst2 bV HSZ ⊢
        refine Held.takeB (v := .slice Ao mo co0) 0 (some 68) [9] rfl rfl (by kernel_rfl) (by kernel_rfl) (by kernel_rfl) (by kernel_rfl) (fun _ _ _ h => h) rfl (Held.y_move rfl rfl) T0 ?_
        simp only [Act.put, Z1, Z2, Z3]
        refine Held.takeB (v := .slice Ax h cx) 1 (some 69) [9] rfl rfl (by kernel_rfl) (by kernel_rfl) (by kernel_rfl) (by kernel_rfl) (fun _ _ _ h => h) rfl (Held.y_move rfl rfl) T0 ?_
        simp only [Act.put, Z1, Z2, Z3]
        refine Held.takeB (v := .agg #[.bool c2.d, .int .i64 c2.k, .int .i64 c2.v, .int .i64 c2.s]) 3 (some 71) [9] rfl rfl (by kernel_rfl) (by kernel_rfl) (by kernel_rfl) (by kernel_rfl) (fun _ _ _ h => h) rfl (Held.y_load_blk (n := 4) rfl rfl Try.underlying26 rfl info_rec rfl (fun X hX => hX)) T0 ?_
        simp only [Act.put, Z1, Z2, Z3]
        refine Held.takeB (v := .slice Ar nr cr) 4 (some 72) [9] rfl rfl (by kernel_rfl) (by kernel_rfl) (by kernel_rfl) (by kernel_rfl) (fun _ _ _ h => h) rfl (Held.y_move rfl rfl) T0 ?_
        simp only [Act.put, Z1, Z2, Z3]
        refine Held.takeB (v := .int .i64 (h : Int)) 5 (some 73) [9] rfl rfl (by kernel_rfl) (by kernel_rfl) (by kernel_rfl) (by kernel_rfl) (fun _ _ _ h => h) rfl (Held.y_move rfl rfl) T0 ?_
        simp only [Act.put, Z1, Z2, Z3]
        refine Held.takeB (v := .slice A2 (nr - h) c2c) 6 (some 74) [9] rfl rfl (by kernel_rfl) (by kernel_rfl) (by kernel_rfl) (by kernel_rfl) (fun _ _ _ h => h) rfl (Held.y_slice rfl hbk) T0 ?_
        simp only [Act.put, Z1, Z2, Z3]
        have lox := OwnL.lst ox HXW.out
        rw [HXL.out] at lox
        refine Held.oneB 2 (by kernel_rfl) ?_
        refine op_append_all (k := kRec) 2 (some 70) 27 26 rfl rfl rfl rfl Try.underlying27 _ 32 info_kRec rfl u6.heap.size wd.heap.size h cx Ax (.slice Ao mo co0) out (outs (foldV K lm_ lf_ le_) (finishV K lm_ lf_ le_) cc l1) rfl rfl ow lox (by rw [HOL.out]; omega) (by omega) HSZ ?_
        intro v5 w5 o5 g5 n5
        have hrow : ∀ r, (Value.slice Ao mo co0).ownBlock = some r → u6.heap.size ≤ r := fun r ee => (OwnL.lt ow r ee).1
        have T5 : Blk w5 p15 26 #[.bool c2.d, .int .i64 c2.k, .int .i64 c2.v, .int .i64 c2.s] := T0.grown g5 (fun ee => hop15 ee.symm)
        have qc := qc.grown g5 (fun ee => by have := hrow _ ee.symm; omega)
        have rst2 := rst2.grown g5 (fun ee => by have := hrow _ ee.symm; omega) (by have := DB.size; omega)
        have bV := bV.grown g5 bV.size (fun r ee => by have := hrow r ee; omega)
        have HSZ := Nat.le_trans HSZ g5.size
        refine ⟨fun _ => T5, ?_⟩
        simp only [Act.put, Z1, Z2, Z3]
        refine Held.takeB (v := v5) 7 (some 9) [9] rfl rfl (by kernel_rfl) (by kernel_rfl) (by kernel_rfl) (by kernel_rfl) (fun _ _ _ h => h) rfl (Held.y_assign rfl rfl) T5 ?_
        simp only [Act.put, Z1, Z2, Z3]
        refine Held.oneB 8 (by kernel_rfl) ?_
        refine op_store_blk 8 none 26 v8.heap.size 4 26 _ #[.bool c2.d, .int .i64 c2.k, .int .i64 c2.v, .int .i64 c2.s] rfl rfl rfl rfl rfl rfl qc info_rec rfl rfl (by kernel_rfl) ?_
        intro w6 q6 g6
        have T6 : Blk w6 p15 26 #[.bool c2.d, .int .i64 c2.k, .int .i64 c2.v, .int .i64 c2.s] := T5.grown g6 (by intro ee; injection ee with ee; omega)
        have o5 := OwnL.kept o5 g6 (.inr fun ee => by have := (OwnL.lt o5 _ ee).1; omega)
        have rst2 := rst2.grown g6 (by intro ee; injection ee with ee; omega) (by have := g5.size; have := DB.size; omega)
        have bV := bV.grown g6 bV.size (fun r ee => by cases ee; omega)
        have HSZ := Nat.le_trans HSZ g6.size
        refine ⟨fun _ => T6, ?_⟩
        simp only [Act.put, Z1, Z2, Z3]
        refine Held.oneB 9 (by kernel_rfl) ?_
        refine op_assign 9 (some 11) (.slice A2 (nr - h) c2c) rfl rfl rfl rfl rfl ?_
        refine ⟨(fun h => by cases h.symm.trans (show _ = true by kernel_rfl)), ?_⟩
        simp only [Act.put, Z1, Z2, Z3]
        refine doneB (by kernel_rfl) ?_ _
        go_wp2_with fail
        go_roundw
        case rel => exact ⟨i + 1, q + h, by omega, by have := HNR.out; omega, by go_num, by rw [HOUT.out]; exact o5, by rw [HEN2.out]; exact q6, ⟨A2, nr - h, c2c, rfl, by rw [HDROP.out]; exact rst2⟩, HSZ, bV⟩
        case measure => simp [intOf]; omega
    · have hin : i = nc := by omega
      subst hin
      have hccs := qc
      have HALL := Lib.hid (show outs (foldV K lm_ lf_ le_) (finishV K lm_ lf_ le_) RD rs = outs (foldV K lm_ lf_ le_) (finishV K lm_ lf_ le_) RD (rs.take q) ++ outs (foldV K lm_ lf_ le_) (finishV K lm_ lf_ le_) (ends (foldV K lm_ lf_ le_) RD (rs.take q)) (rs.drop q) by rw [← outs_append, List.take_append_drop])
      have HEALL := Lib.hid (show ends (foldV K lm_ lf_ le_) RD rs = ends (foldV K lm_ lf_ le_) (ends (foldV K lm_ lf_ le_) RD (rs.take q)) (rs.drop q) by rw [← ends_append, List.take_append_drop])
      have hl1w : ∀ x ∈ rs.drop q, x.wf := fun y hy => HRW.out y (List.mem_of_mem_drop hy)
      have lst1 := rst.lst hgw hl1w
      have hll := rst.len
      have hopn : outs (foldV K lm_ lf_ le_) (finishV K lm_ lf_ le_) RD (rs.take q) = outs (foldV K lm_ lf_ le_) (finishV K lm_ lf_ le_) RD (rs.take q) := rfl
      generalize ends (foldV K lm_ lf_ le_) RD (rs.take q) = cc at qc HALL HEALL hccw hbb hccs
      generalize outs (foldV K lm_ lf_ le_) (finishV K lm_ lf_ le_) RD (rs.take q) = out at ow HOL HALL hopn
      generalize rs.drop q = l1 at rst HALL HEALL hl1w lst1 hll
      have HXW := Lib.hid (outs_wf HFW.out HGW.out cc l1 hccw hl1w)
      have HXL := Lib.hid ((outs_length (F := (foldV K lm_ lf_ le_)) (G := (finishV K lm_ lf_ le_)) cc l1).trans hll)
      have hst := step_any w.heap.size wr.heap.size K Am Af Ae Ar nm cm nf cf ne ce nr cr lm_ lf_ le_ cc l1 wr (hm.below bw) (hf.below bw) (he.below bw) lst1 bw.size (Nat.le_refl _) (by omega) hC hccw
      rw [hbb, ← HEALL.out, HEE.out] at hst
      clear rst hccs hopn hccw hbb hl1w lst1 hll HEALL HEE
      go_wp2_with (first
        | (refine wpList_load_blk (w := wr) rfl 24 _ rfl w.heap.size 4 rfl 24 _ qpr _ Try.underlying24 rfl info_prog rfl ?_)
        | (refine wpList_load_blk (w := wr) rfl 26 _ rfl v8.heap.size 4 rfl 26 _ qc _ Try.underlying26 rfl info_rec rfl ?_))
      refine hst.mono ?_
      rintro e wa ⟨va, rfl, oa, ba⟩
      obtain ⟨Aa, ca, rfl, _⟩ := OwnL.form oa
      have la := OwnL.lst oa HXW.out
      rw [HXL.out] at la
      rw [HXL.out]
      have ow := OwnL.below ow ba
      have bV := bV.trans (ba.mono hlw8)
      have hra := ba.size
      have HSZ := Nat.le_trans HSZ ba.size
      have bw := bw.trans (ba.mono bw.size)
      clear oa ba qc qpr
      go_wp2_with (first
        | (refine wpList_alloc_blk (w := wa) rfl 26 rfl _ zero_rec ?_; intro wb qb gb zb)
        | (refine wpList_store_blk (w := wb) rfl 26 _ _ rfl wa.heap.size 4 rfl 26 _ #[.bool EE.d, .int .i64 EE.k, .int .i64 EE.v, .int .i64 EE.s] rfl qb info_rec rfl rfl (by kernel_rfl) ?_; intro wc qcc gc zc))
      have bc : Below wa.heap.size wa wc := ((Below.refl _ wa).grown gb (Nat.le_refl _) (by simp)).grown gc gb.size (fun r e => by cases e; exact Nat.le_refl _)
      have ow := OwnL.below ow bc
      have la := (Lst.below la bc).more bc.size
      have bV := bV.trans (bc.mono bV.size)
      have HSZ := Nat.le_trans HSZ bc.size
      have bw := bw.trans (bc.mono bw.size)
      clear qb gb gc zb zc bc
      refine (awake15_any wc).mono ?_
      rintro e wd ⟨rfl, bd⟩
      have ow := OwnL.below ow bd
      have la := (Lst.below la bd).more bd.size
      have bV := bV.trans (bd.mono bV.size)
      have qcc := qcc.after bd
      have HSZ := Nat.le_trans HSZ bd.size
      have bw := bw.trans (bd.mono bw.size)
      have hna : (Value.slice Ao mo co0).ownBlock ≠ some wa.heap.size := fun ee => by have := (OwnL.lt ow0 _ ee).2; omega
      have hn8 : ∀ r, (Value.slice Ao mo co0).ownBlock = some r → u6.heap.size ≤ r := fun r ee => (OwnL.lt ow0 r ee).1
      clear bd
      go_wp2_with (first
        | (refine wpList_append_allG (k := kRec) (w := wd) rfl _ _ 27 26 rfl Try.underlying27 _ 32 info_kRec rfl u6.heap.size wd.heap.size nr ca Aa (.slice Ao mo co0) out (outs (foldV K lm_ lf_ le_) (finishV K lm_ lf_ le_) cc l1) rfl rfl ow la (by rw [HOL.out]; omega) (by omega) HSZ ?_; intro ve we oe ge ne_))
      have bV := bV.grown ge bV.size (fun r ee => by have := hn8 r ee; omega)
      have bw := bw.grown ge bw.size (fun r ee => by have := hn8 r ee; omega)
      have lx := (Lst.below lx bV).more bV.size
      have q8 := q8.below bV q8.lt
      have qcc := qcc.grown ge (fun ee => hna ee.symm)
      rw [← HALL.out, HXS.out] at oe
      obtain ⟨Ae2, ce2, rfl, _⟩ := OwnL.form oe
      have lye := OwnL.lst oe HXW0.out
      rw [HXL0.out] at lye
      rw [HXL0.out]
      clear oe ow la ge
      refine (Rs.plain_any we.heap.size we.heap.size Ae2 Ax n n ce2 cxw _ _ we (lst_recs lye) (lst_recs lx) (Nat.le_refl _) (Nat.le_refl _) (by omega) (by omega)).mono ?_
      rintro e wf_ ⟨rfl, bf⟩
      rw [show decide (XS = XS) = true by simp]
      have q8 := q8.after bf
      have qcc := qcc.after bf
      have bw := bw.trans (bf.mono bw.size)
      go_wp2_with (first
        | (refine wpList_load_blk (w := wf_) rfl 26 _ rfl wa.heap.size 4 rfl 26 _ qcc _ Try.underlying26 rfl info_rec rfl ?_)
        | (refine wpList_load_blk (w := wf_) rfl 26 _ rfl u3.heap.size 4 rfl 26 _ q8 _ Try.underlying26 rfl info_rec rfl ?_)
        | (refine wpList_run (w := wf_) rfl (v := .bool true) (y_eqr (S := fun _ => True) rfl rfl rfl (by simp) _ trivial) ?_))
      go_ret
      exact ⟨rfl, bw⟩
theorem walk (K0 : Int) (Am0 : Option Addr) (nm0 cm0 : Nat) (lm0 : List Vm.O) (Af0 : Option Addr) (nf0 cf0 : Nat) (lf0 : List Vm.O) (Ae0 : Option Addr) (ne0 ce0 : Nat) (le0 : List Vm.O) (A1 : Option Addr) (m1 c1 : Nat) (rs1 : List Rs.R) (a2 : Option Addr) (len2 cap2 : Nat) (z2 : List Int) (w : World) (wK0 : (Lit.int .i64 K0).wf = true) (hm0 : Sl.Lst Vm.kO w w.heap.size Am0 nm0 lm0 ∧ nm0 ≤ cm0 ∧ cm0 ≤ maxLen) (hf0 : Sl.Lst Vm.kO w w.heap.size Af0 nf0 lf0 ∧ nf0 ≤ cf0 ∧ cf0 ≤ maxLen) (he0 : Sl.Lst Vm.kO w w.heap.size Ae0 ne0 le0 ∧ ne0 ≤ ce0 ∧ ce0 ≤ maxLen) (hr1 : Rs.Recs w w.heap.size A1 m1 rs1) (hc1 : m1 ≤ c1 ∧ c1 ≤ maxLen) (w2 : IsRow .i64 w a2 len2 cap2 z2) :
    Calls Try.prog 4 #[.agg #[.int .i64 K0, .slice Am0 nm0 cm0, .slice Af0 nf0 cf0, .slice Ae0 ne0 ce0], .slice A1 m1 c1, .slice a2 len2 cap2] w fun e w' => e = .returned (.bool true) ∧ Below w.heap.size w w' := by
  exact start K0 Am0 Af0 Ae0 A1 a2 nm0 cm0 nf0 cf0 ne0 ce0 m1 c1 len2 cap2 lm0 lf0 le0 rs1 _ w hm0.1 hf0.1 he0.1 hr1 (ints_of_row w2).1 (by have := hm0.2; unfold maxLen at this; omega) (by have := hf0.2; unfold maxLen at this; omega) (by have := he0.2; unfold maxLen at this; omega)
set_option maxRecDepth 100000 in
theorem lifted (os : Os) (started : os.Started) (H : Type) (enc : TypeId × Value → H) :
    ReturnsInHanded {} Try.checked os 4 .any (Rows.chainCutsSpec.pre6 enc Try.prog Try.f4 Rows.chainCutsRow.domain false) (Rows.chainCutsSpec.post enc Try.prog Try.f4 false true false false) := by
  refine returnsInHanded_of_change (C := Try.checked) own started (by kernel_rfl) Try.func4
    (ChangeSpec.witness6 (enc := enc) (C := Try.checked) false ⟨#[], #[.agg #[.int .i64 0, .slice none 0 0, .slice none 0 0, .slice none 0 0], .slice none 0 0, .slice none 0 0], []⟩ 8 (by kernel_rfl) (by kernel_rfl) (by kernel_rfl) (by kernel_rfl)) ?_
  intro W base args ds gs before hval0 hW hcnd _
  have hval : ∀ (j : Nat) t v, Try.f4.params[j]? = some t → args[j]? = some v → Value.okWide Try.prog W .any base t v := hval0
  have hW' := hW
  obtain ⟨p, q, hA0, hV, rfl, hfz, hnd⟩ := hW
  have hA : DataW.TrodAll enc Try.prog W 0 (fun _ => true) true Try.f4.params.toList args.toList ds p := hA0
  rw [Try.params4] at hA hval
  obtain ⟨v0, vs0, d0, ds0, p0, q0, hargs, rfl, rfl, h0, r0⟩ := trodAll_cons hA
  obtain ⟨v1, vs1, d1, ds1, p1, q1, rfl, rfl, rfl, h1, r1⟩ := trodAll_cons r0
  obtain ⟨v2, vs2, d2, ds2, p2, q2, rfl, rfl, rfl, h2, r2⟩ := trodAll_cons r1
  obtain ⟨rfl, rfl, rfl⟩ := trodAll_nil r2
  obtain rfl : args = #[v0, v1, v2] := by cases args; simp_all
  obtain ⟨rfl, rfl⟩ := trodVars_none hV
  have kk0 := h0
  have lt0 : ∀ x ∈ p0, x.block < W.heap.size := by obtain ⟨m, hm⟩ := kk0; exact DataW.trod_lt m _ _ _ hm
  obtain ⟨K0, Am0, nm0, cm0, lm0, Af0, nf0, cf0, lf0, Ae0, ne0, ce0, le0, rfl, wK0, hm0, hf0, he0⟩ := Vm.open_prog (hval 0 24 v0 rfl rfl) h0
  obtain ⟨A1, m1, c1, rfl⟩ := okWide_slice Try.underlying27 (hval 1 27 v1 rfl rfl)
  have kk1 := h1
  have lt1 : ∀ x ∈ p1, x.block < W.heap.size := by obtain ⟨m, hm⟩ := kk1; exact DataW.trod_lt m _ _ _ hm
  obtain ⟨rs1, hr1, hc1⟩ := Rs.open_recs h1
  obtain ⟨a2, len2, cap2, rfl⟩ := okWide_slice Try.underlying35 (hval 2 35 v2 rfl rfl)
  have k2 := h2
  have lt2 : ∀ x ∈ p2, x.block < W.heap.size := by obtain ⟨m, hm⟩ := k2; exact DataW.trod_lt m _ _ _ hm
  obtain ⟨z2, w2⟩ : ∃ zs, IsRow .i64 W a2 len2 cap2 zs := by
    obtain ⟨fuel, hf⟩ := h2
    rcases open_ints Try.underlying35 Try.underlying3 (by kernel_rfl) hf with ⟨hcs, _⟩ | ⟨x, l, c, zs, hcs, _, hl, hm, hz, _, hcell, hwz⟩
    · simp [Value.cells] at hcs
      obtain ⟨rfl, rfl, rfl⟩ := hcs
      exact ⟨[], .inl ⟨rfl, rfl, rfl, rfl⟩⟩
    · simp [Value.cells] at hcs
      obtain ⟨rfl, rfl, rfl⟩ := hcs
      exact ⟨zs, .inr ⟨_, rfl, hl, hm, by simpa using hz, hcell, hwz⟩⟩
  clear hA0 hval0
  refine (walk K0 Am0 nm0 cm0 lm0 Af0 nf0 cf0 lf0 Ae0 ne0 ce0 le0 A1 m1 c1 rs1 a2 len2 cap2 z2 W wK0 hm0 hf0 he0 hr1 hc1 w2).mono fun e W' ⟨he, bel⟩ => ?_
  subst he
  exact ⟨_, rfl, _, _, _, [], _, [], hW', trodAll_mk1 (shut_bool Try.underlying4 _), (trodAll_cons_mk (Below.trod laidOut (by kernel_rfl) (of_decide_eq_true (by kernel_rfl)) kk0 bel lt0) (trodAll_cons_mk (Below.trod laidOut (by kernel_rfl) (of_decide_eq_true (by kernel_rfl)) kk1 bel lt1) (trodAll_cons_mk (Below.trod laidOut (by kernel_rfl) (of_decide_eq_true (by kernel_rfl)) k2 bel lt2) trodAll_mk0))), rfl, bel.frame _, fun h => by cases h⟩
theorem over : Rows.chainCutsRow.holds Try.pinned (OpenSpec.ofChange Rows.chainCutsSpec) :=
  OpenClaim.holds_of_wide 4 Try.f4 rfl rfl rfl rfl rfl rfl rfl ⟨rfl, rfl, rfl, rfl, rfl⟩ rfl rfl rfl rfl rfl (by kernel_rfl) Try.func4 (by kernel_rfl)
    (of_decide_eq_true (by kernel_rfl)) (by unfold Func.isWrapper; first | (rw [if_pos (by decide +kernel)]; kernel_rfl) | (rw [if_neg (by decide +kernel)]; exact ⟨rfl, rfl⟩))
    (fun os started H enc _ => lifted os started H enc)
theorem proved : Rows.ChainCutsSaid :=
  over
#print axioms proved
end Go.Proofs.Ytkiempdpfmolfaa.chainCuts
