/-
  Package shape's iterators over the tasks of a group, and package bitonic's one over a round's pairs where the round may be left, by their contracts.
  A region that draws its order and in the end calls a yield, within a round or an iterator: what comes ahead of that call is gone through as without a fence, loads taken first as long as it has not come up.
  Package shape's iterator over the tasks of a round of the network, and its functions that tell the iterators over a group's tasks, by their contracts.
  Package shape's Tasks: which iterator each group has, and the iterator over all tasks, by their contracts.
-/
import Derived.Test.YtipmfficjomcoaaDoorB7
import Derived.Test.YtipmfficjomcoaaDoorB4
set_option linter.unusedVariables false
namespace Go.Proofs.YtipmfficjomcoaaDoor.Sh
open Go.RowKit Go.Shelf Mem Held Go.Proofs.YtipmfficjomcoaaDoor.Range Sl
attribute [local go_sem] Oper.semAt_some
attribute [local irreducible] wpList wpListIn Calls
set_option maxRecDepth 100000 in
set_option maxHeartbeats 4000000 in
theorem round_p (N bn br : Nat) (n r : Int) (s t : Nat) (w : World) (h0 : -9223372036854775808 ≤ n) (h1 : n ≤ 9223372036854775807) (hT : Bi.TzT w) (hF : Bi.Found (Bi.stg n) r s t true)
    (hbn : Blk w bn 3 #[.int .i64 n]) (hbr : Blk w br 3 #[.int .i64 r]) :
    SeqP Fence.wide N Tryd.prog 75 #[.pointer (some ⟨bn, 0, none⟩), .pointer (some ⟨br, 0, none⟩)] (fun _ => False) (fun a : Nat => #[.int .i64 (a : Int), .int .i64 ((a : Int) + 2 ^ (t - 1))]) (fun k => (Net.firsts (2 ^ (t - 1)) n.toNat)[k]?) w := by
  intro l J Jx W hW hJ hJx hY h00
  have kbn := (hbn.after hW).cell (i := 0) rfl
  have kbr := (hbr.after hW).cell (i := 0) rfl
  have H := Bi.find_any n r (Bi.stg n) s t true W h0 h1 (hT.below hW hT.lt) rfl hF
  obtain ⟨hn, t1, t2, t3, t4⟩ := hF.is rfl
  clear hbn hbr hT hF hW h0 h1
  refine callsIn_of_wp Tryd.func75 rfl trivial ?_ rfl
  simp only [Tryd.ntmps75, List.size_toArray, List.length_cons, List.length_nil, Nat.reduceAdd, Nat.reduceSub, Array.replicate_succ, Array.replicate_zero, List.push_toArray, List.append_toArray, List.nil_append, List.cons_append]
  have hd := Bi.two_nat (t - 1)
  have hd1 := Bi.two_pos (t - 1)
  have hd2 := Bi.two_16 (show t - 1 ≤ 16 by omega)
  obtain ⟨M, hM⟩ : ∃ M : Nat, 2 ^ Bi.stg n = M := ⟨_, rfl⟩
  have hM16 : M ≤ 65536 := by rw [← hM]; exact Nat.pow_le_pow_right (by omega) t4
  have hM1 : 1 ≤ M := by rw [← hM]; exact Nat.two_pow_pos _
  rw [hM] at hn
  obtain ⟨dN, hdN⟩ : ∃ dN : Nat, 2 ^ (t - 1) = dN := ⟨_, rfl⟩
  have HAP := Lib.hid (fun W => Bi.apart_any t W t1 (show t ≤ 16 by omega))
  have HLO := Lib.hid (fun (W : World) (k : Nat) (hk : k ≤ 65536) => Bi.lower_any (k : Int) t W (by omega) (by omega) t1 (show t ≤ 16 by omega))
  rw [hdN] at hd
  rw [show n.toNat = M by omega, hdN] at hY ⊢
  have HY := Lib.hid (fun (pv : Nat → Prop) (k : Nat) (wr : World) (hk : k < M) (hb : k / dN % 2 = 0) (hJk : J pv (Net.firsts dN k).length wr) => hY pv (Net.firsts dN k).length k wr hJk (by
    have := Bi.firsts_prefix dN (show k + 1 ≤ M by omega)
    rw [Net.firsts_succ, if_pos hb] at this
    obtain ⟨rest, hr⟩ := this
    show (Net.firsts dN M)[(Net.firsts dN k).length]? = some k
    rw [← hr, List.append_assoc, List.getElem?_append_right (Nat.le_refl _), Nat.sub_self]
    rfl))
  rw [hd] at hd1 hd2 HAP HLO HY
  have HFS := Lib.hid (fun k => show (Net.firsts dN (k + 1)).length = (Net.firsts dN k).length + (if k / dN % 2 = 0 then 1 else 0) by rw [Net.firsts_succ, List.length_append]; split <;> simp)
  have HEN := Lib.hid (show (Net.firsts dN M)[(Net.firsts dN M).length]? = none by simp)
  subst hn
  clear hY hd hdN hM t3 t4 t2 t1
  gi_wp2_with fail
  refine ⟨trivial, fun h => (by cases h), ?_⟩
  refine (callsIn_wide.2 H).mono ?_
  rintro e w3 ⟨rfl, rfl⟩
  clear H
  gi_wp2_with fail
  gi_loopw [18] (fun i wr => ∃ (k : Nat) (pv : Nat → Prop), k ≤ M ∧ i = .int .i64 k ∧ J pv (Net.firsts dN k).length wr) (fun i _ => M - (intOf i).toNat)
  case atStart => exact ⟨0, _, by omega, rfl, h00⟩
  case round =>
    clear h00 kbn kbr
    obtain ⟨k, pv, hk, rfl, Jk⟩ := hrel
    by_cases hlt : k < M
    · have hlt' : (k : Int) < (M : Int) := by omega
      have hL := HLO.out wr k (by omega)
      by_cases hb : k / dN % 2 = 0
      · have hdec : decide ((k : Int) / (dN : Int) % 2 = 0) = true := by
          rw [← Int.natCast_ediv]; simp; omega
        rw [hdec] at hL
        obtain ⟨fn, tmps, assign, body, hy, hR⟩ := HY.out pv k wr hlt hb Jk
        have hfs : (Net.firsts dN (k + 1)).length = (Net.firsts dN k).length + 1 := by rw [HFS.out, if_pos hb]
        rw [← hfs] at hR
        have hadd : IntKind.i64.wrap ((k : Int) + (dN : Int)) = (k : Int) + dN := by rw [IntKind.wrap_i64]; omega
        clear hfs hb hdec
        gi_wp2_with fail
        refine ⟨trivial, fun h => (by cases h), ?_⟩
        refine (callsIn_wide.2 hL).mono ?_
        rintro e w4 ⟨rfl, rfl⟩
        gi_wp2_with fail
        refine ⟨trivial, fun h => (by cases h), ?_⟩
        refine (callsIn_wide.2 (HAP.out wr)).mono ?_
        rintro e w5 ⟨rfl, rfl⟩
        gi_wp2_with fail
        refine ⟨fun h => (by cases h), ?_⟩
        refine hR.mono ?_
        rintro e W4 ⟨-, (⟨rfl, J4⟩ | ⟨rfl, x4⟩)⟩
        · gi_wp2_with fail
          go_roundw
          case rel => exact ⟨k + 1, _, by omega, by go_num, J4⟩
          case measure => simp [intOf]; omega
        · gi_wp2_with fail
          exact bodyPost_ret (results_none rfl _ _ _) rfl ⟨⟨_, rfl⟩, .inr ⟨_, _, x4⟩⟩
      · have hdec : decide ((k : Int) / (dN : Int) % 2 = 0) = false := by
          rw [← Int.natCast_ediv]; simp; omega
        rw [hdec] at hL
        have hfs : (Net.firsts dN (k + 1)).length = (Net.firsts dN k).length := by rw [HFS.out, if_neg hb]; rfl
        rw [← hfs] at Jk
        clear hfs hb hdec
        gi_wp2_with fail
        refine ⟨trivial, fun h => (by cases h), ?_⟩
        refine (callsIn_wide.2 hL).mono ?_
        rintro e w4 ⟨rfl, rfl⟩
        gi_wp2_with fail
        refine ⟨trivial, ?_⟩
        gi_wp2_with fail
        try refine ⟨fun _ h => (by cases h), ?_⟩
        gi_wp2_with fail
        go_roundw
        case rel => exact ⟨k + 1, _, by omega, by go_num, Jk⟩
        case measure => simp [intOf]; omega
    · have hkM : k = M := by omega
      subst hkM
      gi_wp2_with fail
      go_end0
      exact ⟨⟨_, rfl⟩, .inl ⟨_, _, HEN.out, Jk⟩⟩
def tkV (t : Tk) : Value := .agg #[.int .i64 t.kd, .int .i64 t.rd, .int .i64 t.a, .int .i64 t.b, .bool t.up]
def encT (x : Nat × Tk) : Array Value := #[.int .i64 (x.1 : Int), tkV x.2]
def atG (mp M : Nat) (g : Gr) (k : Nat) : Option (Nat × Tk) := ((tkOf mp M g)[k]?).map (fun t => (g.fi + k, t))
set_option maxRecDepth 100000 in
set_option maxHeartbeats 4000000 in
theorem singles_p (N bg bj : Nat) (K : Int) (I mp M T : Nat) (g : Gr) (h : JobP K I mp M T) (w : World) (q : Blk w bj 62 #[.int .i64 K, .int .i64 (I : Int), .int .i64 (M : Int)]) (qg : Blk w bg 68 #[.int .i64 g.kd, .int .i64 g.rd, .int .i64 (g.sz : Int), .int .i64 (g.fi : Int)]) (h0 : g.rd = 0) (hz : g.sz ≤ 100) (hf : g.fi ≤ 2000) :
    SeqP Fence.wide N Tryd.prog 67 #[.pointer (some ⟨bg, 0, none⟩), .pointer (some ⟨bj, 0, none⟩)] (fun r => r = bg ∨ r = bj) encT (atG mp M g) w := by
  intro l J Jx W hW hJ hJx hY h00
  have q := q.after hW
  have qg := qg.after hW
  have hmp : mp ≤ 32 := Nat.le_trans h.le h.m32
  have HM := Lib.hid (fun (W : World) => mapped_any K I mp M T h W)
  have HAT := Lib.hid (fun (k : Nat) (hk : k < g.sz) => show atG mp M g k = some (g.fi + k, oneT g.kd ((if g.kd = 2 then mp else 0) + k)) by
    unfold atG tkOf
    rw [if_pos h0]
    simp [hk])
  have HEN := Lib.hid (show atG mp M g g.sz = none by
    unfold atG tkOf
    rw [if_pos h0]
    simp)
  have HY := Lib.hid (fun (pv : Nat → Prop) (k : Nat) (W1 : World) (hk : k < g.sz) (hJk : J pv k W1) => hY pv k (g.fi + k, oneT g.kd ((if g.kd = 2 then mp else 0) + k)) W1 hJk (HAT.out k hk))
  have HE := Lib.hid (fun (k b : Nat) (hb : (if g.kd = 2 then mp else 0) = b) => show encT (g.fi + k, oneT g.kd ((if g.kd = 2 then mp else 0) + k)) = #[.int .i64 ((g.fi : Int) + (k : Int)), .agg #[.int .i64 g.kd, .int .i64 0, .int .i64 ((b : Int) + (k : Int)), .int .i64 0, .bool false]] by
    rw [hb]
    simp [encT, tkV, oneT])
  clear hY h hW HAT
  have hc0 := qg.cell (i := 0) rfl
  have hc2 := qg.cell (i := 2) rfl
  refine callsIn_of_wp Tryd.func67 rfl trivial ?_ rfl
  simp only [Tryd.ntmps67, List.size_toArray, List.length_cons, List.length_nil, Nat.reduceAdd, Nat.reduceSub, Array.replicate_succ, Array.replicate_zero, List.push_toArray, List.append_toArray, List.nil_append, List.cons_append]
  by_cases hk2 : g.kd = 2
  all_goals
    first
      | (have hb : (if g.kd = 2 then mp else 0) = mp := if_pos hk2)
      | (have hb : (if g.kd = 2 then mp else 0) = 0 := if_neg hk2)
  · have HB := Lib.hid hb
    have HK2 := Lib.hid hk2
    have hdec : decide (g.kd = 2) = true := decide_eq_true hk2
    clear hb hk2
    gi_wp2_with (first
      | (refine Held.wpListIn_one (r := none) rfl (by intro c e; cases e) ?_; refine wpList_fld0 (w := W) rfl rfl rfl Tryd.underlying68 rfl (by kernel_rfl) ?_; refine wpList_nil ⟨rfl, ?_⟩)
      | (refine Held.wpListIn_one (r := none) rfl (by intro c e; cases e) ?_; refine Held.wpList_run (w := W) rfl (v := .bool true) (Held.y_eqI (S := fun _ => True) rfl rfl rfl hdec _ trivial) ?_; refine wpList_nil ⟨rfl, ?_⟩)
      | (refine Held.wpListIn_one (r := none) rfl (by intro c e; cases e) ?_; refine wpList_load_blk (w := W) rfl 62 _ rfl (bj) 3 rfl 62 _ q _ Tryd.underlying62 rfl (by kernel_rfl) rfl ?_; refine wpList_nil ⟨rfl, ?_⟩))
    refine ⟨trivial, fun h => (by cases h), ?_⟩
    refine (callsIn_wide.2 (HM.out W)).mono ?_
    rintro e w2 ⟨rfl, b2⟩
    have J2 := hJ.below h00 b2
    have q2 := qg.after b2
    have q2j := q.after b2
    have hc2 := q2.cell (i := 2) rfl
    clear hc0 b2 h00 q qg hdec
    gi_wp2_with fail
    gi_loopw [13] (fun i wr => ∃ (k : Nat) (pv : Nat → Prop), k ≤ g.sz ∧ i = .int .i64 (k : Int) ∧ J pv k wr ∧ Blk wr bg 68 #[.int .i64 g.kd, .int .i64 g.rd, .int .i64 (g.sz : Int), .int .i64 (g.fi : Int)] ∧ Blk wr bj 62 #[.int .i64 K, .int .i64 (I : Int), .int .i64 (M : Int)]) (fun i _ => g.sz - (intOf i).toNat)
    case atStart => exact ⟨0, _, by omega, rfl, J2, q2, q2j⟩
    case round =>
      clear J2 q2 q2j hc2
      obtain ⟨k, pv, hk, rfl, Jk, q, qj⟩ := hrel
      by_cases hlt : k < g.sz
      · have hlt' : (k : Int) < (g.sz : Int) := by omega
        have hc0 := q.cell (i := 0) rfl
        have hc3 := q.cell (i := 3) rfl
        have hadd : IntKind.i64.wrap ((g.fi : Int) + (k : Int)) = (g.fi : Int) + (k : Int) := by rw [IntKind.wrap_i64]; omega
        have hadd2 : IntKind.i64.wrap (((mp : Int) + (k : Int))) = ((mp : Int) + (k : Int)) := by rw [IntKind.wrap_i64]; omega
        have hadd3 : IntKind.i64.wrap ((k : Int) + 1) = (k : Int) + 1 := by rw [IntKind.wrap_i64]; omega
        obtain ⟨fn, tmps, assign, body, hy, hR⟩ := HY.out pv k wr hlt Jk
        rw [HE.out k mp HB.out] at hy
        have hy : (Instr.yield l #[.int .i64 ((g.fi : Int) + (k : Int)), .agg #[.int .i64 g.kd, .int .i64 0, .int .i64 ((mp : Int) + (k : Int)), .int .i64 0, .bool false]]).run Tryd.prog wr = .ok (.round l fn tmps assign body) wr := hy
        have HAD := Lib.hid hadd2
        clear hadd2
        gi_wp2_with (first
          | (refine Held.wpListIn_one (r := none) rfl (by intro c e; cases e) ?_; refine wpList_fld0 (w := wr) rfl rfl rfl Tryd.underlying68 rfl (by kernel_rfl) ?_; refine wpList_nil ⟨rfl, ?_⟩)
          | (refine Held.wpListIn_one (r := none) rfl (by intro c e; cases e) ?_; refine Held.wpList_run (w := wr) rfl (v := .int .i64 ((mp : Int) + (k : Int))) (Held.y_int (S := fun _ => True) (a := (mp : Int)) (b := (k : Int)) rfl rfl rfl (Held.run_add 3 .i64 HAD.out) _ trivial) ?_; refine wpList_nil ⟨rfl, ?_⟩)
          | (refine Held.wpListIn_one (r := none) rfl (by intro c e; cases e) ?_; refine wpList_build_blk rfl 34 #[_, _] rfl #[.int .i64 g.kd, .int .i64 0, .int .i64 ((mp : Int) + (k : Int)), .int .i64 0, .bool false] (by kernel_rfl) ?_; refine wpList_nil ⟨rfl, ?_⟩))
        refine ⟨fun h => (by cases h), ?_⟩
        refine hR.mono ?_
        rintro e w6 ⟨kp, (⟨rfl, J6⟩ | ⟨rfl, x6⟩)⟩
        · have q6 := kp_blk kp q (.inl (.inl rfl))
          have qj6 := kp_blk kp qj (.inl (.inr rfl))
          clear hR hy kp q qj
          gi_wp2_with fail
          go_roundw
          case rel => exact ⟨k + 1, _, by omega, by go_num, J6, q6, qj6⟩
          case measure => simp [intOf]; omega
        · gi_wp2_with fail
          exact bodyPost_ret (results_none rfl _ _ _) rfl ⟨⟨_, rfl⟩, .inr ⟨_, _, x6⟩⟩
      · obtain rfl : k = g.sz := by omega
        gi_wp2_with fail
        go_end0
        exact ⟨⟨_, rfl⟩, .inl ⟨_, _, HEN.out, Jk⟩⟩
  · have HB := Lib.hid hb
    have HK2 := Lib.hid hk2
    have hdec : decide (g.kd = 2) = false := decide_eq_false hk2
    have J2 := h00
    have q2 := qg
    have q2j := q
    clear hb hk2 h00 q qg
    gi_wp2_with (first
      | (refine Held.wpListIn_one (r := none) rfl (by intro c e; cases e) ?_; refine wpList_fld0 (w := W) rfl rfl rfl Tryd.underlying68 rfl (by kernel_rfl) ?_; refine wpList_nil ⟨rfl, ?_⟩)
      | (refine Held.wpListIn_one (r := none) rfl (by intro c e; cases e) ?_; refine Held.wpList_run (w := W) rfl (v := .bool false) (Held.y_eqI (S := fun _ => True) rfl rfl rfl hdec _ trivial) ?_; refine wpList_nil ⟨rfl, ?_⟩))
    clear hc0 hdec
    gi_loopw [13] (fun i wr => ∃ (k : Nat) (pv : Nat → Prop), k ≤ g.sz ∧ i = .int .i64 (k : Int) ∧ J pv k wr ∧ Blk wr bg 68 #[.int .i64 g.kd, .int .i64 g.rd, .int .i64 (g.sz : Int), .int .i64 (g.fi : Int)] ∧ Blk wr bj 62 #[.int .i64 K, .int .i64 (I : Int), .int .i64 (M : Int)]) (fun i _ => g.sz - (intOf i).toNat)
    case atStart => exact ⟨0, _, by omega, rfl, J2, q2, q2j⟩
    case round =>
      clear J2 q2 q2j hc2
      obtain ⟨k, pv, hk, rfl, Jk, q, qj⟩ := hrel
      by_cases hlt : k < g.sz
      · have hlt' : (k : Int) < (g.sz : Int) := by omega
        have hc0 := q.cell (i := 0) rfl
        have hc3 := q.cell (i := 3) rfl
        have hadd : IntKind.i64.wrap ((g.fi : Int) + (k : Int)) = (g.fi : Int) + (k : Int) := by rw [IntKind.wrap_i64]; omega
        have hadd2 : IntKind.i64.wrap ((k : Int)) = (k : Int) := by rw [IntKind.wrap_i64]; omega
        have hadd3 : IntKind.i64.wrap ((k : Int) + 1) = (k : Int) + 1 := by rw [IntKind.wrap_i64]; omega
        obtain ⟨fn, tmps, assign, body, hy, hR⟩ := HY.out pv k wr hlt Jk
        rw [HE.out k 0 HB.out] at hy
        rw [show ((0 : Nat) : Int) + (k : Int) = (k : Int) by omega] at hy
        have hy : (Instr.yield l #[.int .i64 ((g.fi : Int) + (k : Int)), .agg #[.int .i64 g.kd, .int .i64 0, .int .i64 (k : Int), .int .i64 0, .bool false]]).run Tryd.prog wr = .ok (.round l fn tmps assign body) wr := hy
        gi_wp2_with (first
          | (refine Held.wpListIn_one (r := none) rfl (by intro c e; cases e) ?_; refine wpList_fld0 (w := wr) rfl rfl rfl Tryd.underlying68 rfl (by kernel_rfl) ?_; refine wpList_nil ⟨rfl, ?_⟩)
          | (refine Held.wpListIn_one (r := none) rfl (by intro c e; cases e) ?_; refine wpList_build_blk rfl 34 #[_, _] rfl #[.int .i64 g.kd, .int .i64 0, .int .i64 (k : Int), .int .i64 0, .bool false] (by kernel_rfl) ?_; refine wpList_nil ⟨rfl, ?_⟩))
        refine ⟨fun h => (by cases h), ?_⟩
        refine hR.mono ?_
        rintro e w6 ⟨kp, (⟨rfl, J6⟩ | ⟨rfl, x6⟩)⟩
        · have q6 := kp_blk kp q (.inl (.inl rfl))
          have qj6 := kp_blk kp qj (.inl (.inr rfl))
          clear hR hy kp q qj
          gi_wp2_with fail
          go_roundw
          case rel => exact ⟨k + 1, _, by omega, by go_num, J6, q6, qj6⟩
          case measure => simp [intOf]; omega
        · gi_wp2_with fail
          exact bodyPost_ret (results_none rfl _ _ _) rfl ⟨⟨_, rfl⟩, .inr ⟨_, _, x6⟩⟩
      · obtain rfl : k = g.sz := by omega
        gi_wp2_with fail
        go_end0
        exact ⟨⟨_, rfl⟩, .inl ⟨_, _, HEN.out, Jk⟩⟩
end Go.Proofs.YtipmfficjomcoaaDoor.Sh
namespace Go.Proofs.YtipmfficjomcoaaDoor.Held
open Go.RowKit Go.Proofs.YtipmfficjomcoaaDoor.Range
def wpAnyG (F : Fence) (n : Nat) (P : Program) (md : Region.Mode) (ops : Array Oper) (Q : Exit → Act → World → Prop) (T : World → Prop) (s : Nat) : Nat → Array Bool → Act → World → Prop
  | 0, _, _, _ => False
  | fuel + 1, listed, a, w =>
    (Region.ready md ops listed = [s] ∧ wpAnyIn F n P md ops Q (fuel + 1) listed a w) ∨
    ((Region.ready md ops listed ≠ [] ∧ s ∉ Region.ready md ops listed) ∧ ∀ i ∈ Region.ready md ops listed, wpOp P ops Q i (fun a' w' => T w' ∧ wpAnyG F n P md ops Q T s fuel (listed.setIfInBounds i true) a' w') a w)
section
variable {F : Fence} {n : Nat} {P : Program} {ops : Array Oper} {Q : Exit → Act → World → Prop} {md : Region.Mode} {T : World → Prop} {s : Nat}
theorem anyIn_of_g {r : Option Nat} (hd : noDefer ops = true) (hq : ∀ a w, ¬ Q .outgrown a w) : ∀ (fuel : Nat) (listed : Array Bool) (a : Act) (w : World), wpAnyG (wideR r) n P md ops Q T s fuel listed a w → wpAnyIn (wideR r) n P md ops Q fuel listed a w
  | 0, _, _, _, h => h.elim
  | fuel + 1, _, _, _, h => by
    rcases h with h | ⟨⟨h0, _⟩, h⟩
    · exact h.2
    · exact ⟨fun e => absurd e h0, fun i hi => wpOpIn_mono (fun a' w' h' => anyIn_of_g hd hq fuel _ a' w' h'.2) (opsIn_of_op hd hq (h i hi))⟩
theorem wpAnyG_early {i : Nat} {oi : Oper} {v : Value} (hi : ops[i]? = some oi) (hsel : ∀ (j : Nat) (o : Oper) cs b, ops[j]? = some o → o.op ≠ .select cs b)
    (hQ : ∀ c a w, Q (.panic c) (a.put oi.dst v) w → Q (.panic c) a w) {B : List Nat} (hs : s ∈ B) (hw : Waits md ops B i) :
    ∀ (fuel : Nat) {listed : Array Bool} {a : Act} {w : World}, Early md ops B i oi listed → YieldsIf P ops T oi v a → T w →
      wpAnyG F n P md ops Q T s fuel (listed.setIfInBounds i true) (a.put oi.dst v) w → wpAnyG F n P md ops Q T s (fuel + 1) listed a w
  | fuel, listed, a, w, h, hy, hT, H => by
    refine .inr ⟨⟨fun h0 => absurd (h0 ▸ h.ready) (by simp), fun hs' => h.out hw hs' hs⟩, fun j hj => ?_⟩
    by_cases hji : j = i
    · exact hji ▸ hy.wpOp hi hT ⟨hT, H⟩
    · match fuel, H with
      | 0, H => exact H.elim
      | fuel + 1, H =>
        have hm := ready_mono hj hji
        rcases H with ⟨H, _⟩ | ⟨_, H⟩
        · rw [H] at hm
          exact absurd (List.mem_singleton.1 hm ▸ hs) (h.out hw hj)
        · obtain ⟨hun, oj, ho, _⟩ := mem_ready.1 hj
          have step := wpOp_putIf ho (h.free j oj ho hji hun (h.waits hj ho)) (fun cs b => hsel i oi cs b hi) (fun cs b => hsel j oj cs b ho) hQ hy (H j hm)
          have nx := h.next hw hj hji
          refine wpOp_mono (fun a' w' k => ?_) step
          obtain ⟨k1, k2, k3⟩ := k
          rw [Array.setIfInBounds_comm _ _ (Ne.symm hji)] at k3
          exact ⟨k2, wpAnyG_early hi hsel hQ hs hw fuel nx k1 k2 k3⟩
theorem takeG (i : Nat) (d : Option Tmp) (B : List Nat) {oi : Oper} {v : Value} {fuel : Nat} {listed : Array Bool} {a : Act} {w : World} (hi : ops[i]? = some oi) (hd : oi.dst = d)
    (hs : Region.noSelect ops = true) (hf : Region.free md ops listed i = true) (hr : (Region.ready md ops listed).contains i = true) (hB : waitsB md ops listed B s i = true)
    (hQ : ∀ c a w, Q (.panic c) (a.put d v) w → Q (.panic c) a w) (hw : Region.wanted oi (yielded ops a.tmps) = true) (hy : ∀ w, T w → (execOp a.eval oi).run P w = .ok (.value v) w) (hT : T w)
    (h : wpAnyG F n P md ops Q T s fuel (listed.setIfInBounds i true) (a.put d v) w) : wpAnyG F n P md ops Q T s (fuel + 1) listed a w := by
  subst hd
  unfold waitsB at hB
  simp only [Bool.and_eq_true, List.contains_iff_mem, Bool.not_eq_true', List.all_eq_true] at hB
  obtain ⟨⟨h1, h2⟩, h3⟩ := hB
  have h2' : i ∉ B := fun hm => by rw [List.contains_iff_mem.2 hm] at h2; cases h2
  refine wpAnyG_early hi (Region.noSelect_spec hs) hQ h1 ⟨h2', fun b hb o ho => ?_⟩ fuel ⟨by simpa using hr, Region.free_spec hi hf, fun b hb => (h3 b hb).1⟩ (.inl ⟨hw, hy⟩) hT h
  have := (h3 b hb).2
  rw [ho] at this
  obtain ⟨k, hk, he⟩ := Array.any_eq_true.1 this
  simp only [Bool.and_eq_true, Bool.or_eq_true, beq_iff_eq, List.contains_iff_mem] at he
  exact ⟨o.after[k], Array.getElem_mem hk, he.1, he.2⟩
theorem oneG (i : Nat) {fuel : Nat} {listed : Array Bool} {a : Act} {w : World} (hr : Region.ready md ops listed = [i]) (hs : (s == i) = false)
    (h : wpOp P ops Q i (fun a' w' => T w' ∧ wpAnyG F n P md ops Q T s fuel (listed.setIfInBounds i true) a' w') a w) : wpAnyG F n P md ops Q T s (fuel + 1) listed a w :=
  .inr ⟨⟨by rw [hr]; simp, by rw [hr]; simpa using hs⟩, fun j hj => by rw [hr] at hj; obtain rfl := List.mem_singleton.1 hj; exact h⟩
theorem endG {fuel : Nat} {listed : Array Bool} {a : Act} {w : World} (hr : Region.ready md ops listed = [s])
    (h : wpOpIn F n P ops Q s (wpAnyIn F n P md ops Q fuel (listed.setIfInBounds s true)) a w) : wpAnyG F n P md ops Q T s (fuel + 1) listed a w :=
  .inl ⟨hr, fun h0 => absurd (hr ▸ h0) (by simp), fun j hj => by rw [hr] at hj; obtain rfl := List.mem_singleton.1 hj; exact h⟩
theorem wpIn_region_g {r : Option Nat} (hF : F = wideR r) {id : Nat} {a : Act} {w : World} (hm : P.follows .mixedOrders = true) (hd : noDefer ops = true) (hq : ∀ a w, ¬ Q .outgrown a w)
    (h : wpAnyG F n P .any ops Q T s ops.size (Array.replicate ops.size false) a { w with drawn := w.drawn + 1 }) : (Code.region id ops true).wpIn F n P Q a w := by
  subst hF
  exact wpIn_region_any hm (anyIn_of_g hd hq _ _ _ _ h)
theorem opIn_yield (i : Nat) (d : Option Tmp) {r : Option Nat} (hF : F = wideR r) {o : Oper} {a : Act} {w : World} {K : Act → World → Prop} {x : Operand} {xs : Array Operand} {ts : Array TypeId} {l m : Nat} (vals : Array Value) {R : Ending → World → Prop} (hi : ops[i]? = some o) (hd : o.dst = d) (hw : Region.wanted o (yielded ops a.tmps) = true)
    (ho : o.op = .call { callee := .value x, args := xs, argTypes := ts }) (hx : a.eval x = .func (.yield l) #[] #[]) (hv : xs.map a.eval = vals)
    (hY : YieldAt Fence.wide m P l vals w R) (h : ∀ e w', R e w' → ∃ v, e = .returned v ∧ K (a.put d v) w') : wpOpIn F n P ops Q i K a w := by
  subst hd
  subst hF
  unfold wpOpIn
  simp only [hi, hw, if_true]
  obtain ⟨fn, tmps, assign, body, hy, hR⟩ := hY
  refine ⟨fun _ _ => trivial, ?_⟩
  rw [Oper.semAt_plain (wideR r) _ _ (fun c e => by rw [ho] at e; cases e)]
  have hrun : (execOp a.eval o).run P w = .ok (.round l fn tmps assign body) w := by
    unfold execOp
    simp only [ho, resolve, hx, Sem.run_bind, Deferred.ofValue, Sem.run_pure, Result.andThen_ok, invoke, Array.empty_append, hv]
    exact hy
  rw [hrun]
  refine ⟨fun h => (by cases h), RoundIn.mono (R := R) ⟨trivial, fun c cs _ => hR.2 c cs (by simp [Fence.room, Fence.wide])⟩ fun e w' he => ?_⟩
  obtain ⟨v, rfl, hK⟩ := h e w' he
  exact hK
theorem oneIn (i : Nat) (d : Option Tmp) {r : Option Nat} (hF : F = wideR r) {o : Oper} {v : Value} {fuel : Nat} {listed : Array Bool} {a : Act} {w : World} (hr : Region.ready md ops listed = [i]) (hd : noDefer ops = true) (hq : ∀ a w, ¬ Q .outgrown a w) (hi : ops[i]? = some o) (hdst : o.dst = d) (hw : Region.wanted o (yielded ops a.tmps) = true) (hy : ∀ w, True → (execOp a.eval o).run P w = .ok (.value v) w)
    (h : wpAnyIn F n P md ops Q fuel (listed.setIfInBounds i true) (a.put d v) w) : wpAnyIn F n P md ops Q (fuel + 1) listed a w := by
  subst hF
  subst hdst
  refine ⟨fun h0 => absurd (hr ▸ h0) (by simp), fun j hj => ?_⟩
  rw [hr] at hj
  obtain rfl := List.mem_singleton.1 hj
  exact opsIn_of_op hd hq (YieldsIf.wpOp (S := fun _ => True) hi (.inl ⟨hw, hy⟩) trivial h)
end
end Go.Proofs.YtipmfficjomcoaaDoor.Held
namespace Go.Proofs.YtipmfficjomcoaaDoor.Sh
open Go.RowKit Go.Shelf Mem Held Go.Proofs.YtipmfficjomcoaaDoor.Range Sl
attribute [local go_sem] Oper.semAt_some
attribute [local irreducible] wpList wpListIn Calls
theorem firsts_lt {d M x : Nat} {k : Nat} (h : (Net.firsts d M)[k]? = some x) : x < M := by
  have := List.mem_of_getElem? h
  unfold Net.firsts at this
  have := (List.mem_filter.1 this).1
  simpa using this
theorem atG_pair {mp M r sz fi : Nat} {kd : Int} {k x : Nat} (h : (Net.firsts (2 ^ ((stT r).2 - 1)) M)[k]? = some x) : atG mp M ⟨kd, (r : Int) + 1, sz, fi⟩ k = some (fi + k, pairT kd M r x) := by
  unfold atG tkOf
  rw [if_neg (by simp only; omega)]
  simp only [roundT, show ((r : Int) + 1 - 1).toNat = r by omega, List.getElem?_map, h]
  rfl
theorem atG_none {mp M r sz fi : Nat} {kd : Int} {k : Nat} (h : (Net.firsts (2 ^ ((stT r).2 - 1)) M)[k]? = none) : atG mp M ⟨kd, (r : Int) + 1, sz, fi⟩ k = none := by
  unfold atG tkOf
  rw [if_neg (by simp only; omega)]
  simp only [roundT, show ((r : Int) + 1 - 1).toNat = r by omega, List.getElem?_map, h]
  rfl
set_option maxRecDepth 100000 in
set_option maxHeartbeats 8000000 in
theorem pairs_p (N bg bj : Nat) (K : Int) (I mp M T r sz fi : Nat) (kd : Int) (h : JobP K I mp M T) (hN : 1 ≤ N) (w : World) (q : Blk w bj 62 #[.int .i64 K, .int .i64 (I : Int), .int .i64 (M : Int)]) (qg : Blk w bg 68 #[.int .i64 kd, .int .i64 ((r : Int) + 1), .int .i64 (sz : Int), .int .i64 (fi : Int)]) (hT : Bi.TzT w) (hr : r < T) (hf : fi ≤ 2000) :
    SeqP Fence.wide N Tryd.prog 68 #[.pointer (some ⟨bg, 0, none⟩), .pointer (some ⟨bj, 0, none⟩)] (fun b => b = bg ∨ b = bj ∨ b = 1) encT (atG mp M ⟨kd, (r : Int) + 1, sz, fi⟩) w := by
  intro l J Jx W hW hJ hJx hY h0
  have hT0 := hT.below hW hT.lt
  have qj := q.after hW
  have qg := qg.after hW
  have hM32 := h.m32
  have hT15 := h.t15
  have hF := h.round hr
  obtain ⟨dd, hdd⟩ : ∃ dd : Int, (2 : Int) ^ ((stT r).2 - 1) = dd := ⟨_, rfl⟩
  obtain ⟨UV, hUV⟩ : ∃ UV : Nat → Bool, (fun x : Nat => Bi.upV M (stT r).1 (stT r).2 true (x : Int)) = UV := ⟨_, rfl⟩
  have HUP := Lib.hid (fun (x : Nat) (X : World) (hx : x < M) (hT : Bi.TzT X) => Bi.up_any (M : Int) (r : Int) (x : Int) _ _ _ true X (by omega) (by omega) (by omega) (by omega) hT rfl hF)
  have hu : ∀ x : Nat, Bi.upV M (stT r).1 (stT r).2 true (x : Int) = UV x := fun x => congrFun hUV x
  have HE := Lib.hid (fun (k x : Nat) => show encT (fi + k, pairT kd M r x) = #[.int .i64 ((fi + k : Nat) : Int), .agg #[.int .i64 kd, .int .i64 ((r : Int) + 1), .int .i64 (x : Int), .int .i64 ((x : Int) + dd), .bool (UV x)]] by
    unfold encT tkV pairT
    simp only [hdd, hu])
  simp only [hu] at HUP
  have HRD := Lib.hid (fun (b1 b2 : Nat) (X : World) (hT : Bi.TzT X) (q1 : Blk X b1 3 #[.int .i64 (M : Int)]) (q2 : Blk X b2 3 #[.int .i64 (r : Int)]) => round_p (N - 1) b1 b2 (M : Int) (r : Int) _ _ X (by omega) (by omega) hT hF q1 q2)
  rw [hdd] at HRD
  simp only [show ((M : Int)).toNat = M by omega] at HRD
  obtain ⟨fs, hfs⟩ : ∃ fs : List Nat, Net.firsts (2 ^ ((stT r).2 - 1)) M = fs := ⟨_, rfl⟩
  have HLT := Lib.hid (fun (k x : Nat) (hk : fs[k]? = some x) => show x < M from firsts_lt (by rw [hfs]; exact hk))
  have HY := Lib.hid (fun (pv : Nat → Prop) (k x : Nat) (W1 : World) (hk : fs[k]? = some x) (hJk : J pv k W1) => hY pv k (fi + k, pairT kd M r x) W1 hJk (atG_pair (by rw [hfs]; exact hk)))
  have HEN := Lib.hid (fun (k : Nat) (hk : fs[k]? = none) => show atG mp M ⟨kd, (r : Int) + 1, sz, fi⟩ k = none from atG_none (by rw [hfs]; exact hk))
  have HKL := Lib.hid (fun (k x : Nat) (hk : fs[k]? = some x) => show k ≤ 32 by
    have h1 := (List.getElem?_eq_some_iff.1 hk).1
    have h2 : fs.length ≤ M := by rw [← hfs]; exact Bi.firsts_length_le _ _
    omega)
  simp only [HE.out] at HY
  rw [hfs] at HRD
  clear hY h hW HE hF hdd hUV hu hfs q
  refine callsIn_of_wp_marks Tryd.func68 rfl trivial ?_ rfl
  simp only [Tryd.ntmps68, List.size_toArray, List.length_cons, List.length_nil, Nat.reduceAdd, Nat.reduceSub, Array.replicate_succ, Array.replicate_zero, List.push_toArray, List.append_toArray, List.nil_append, List.cons_append]
  have cg1 := qg.cell (i := 1) rfl
  have hsub : IntKind.i64.wrap ((r : Int) + 1 - 1) = (r : Int) := by rw [IntKind.wrap_i64]; omega
  have HS := Lib.hid hsub
  clear hsub
  gi_wp2_with (first
    | (refine Held.wpListIn_one (r := none) rfl (by intro c e; cases e) ?_; refine Held.wpList_box_cell (w := W) rfl 60 _ rfl (.func (.yield l) #[] #[]) rfl rfl ?_; intro u1 q1 g1 z1; have q1 : Blk u1 W.heap.size 60 #[.func (.yield l) #[] #[]] := q1; have b1 : Below W.heap.size W u1 := (Below.refl _ W).grown g1 (Nat.le_refl _) (by simp); have qg1 := qg.after b1; have cg1 := qg1.cell (i := 1) rfl; refine wpList_nil ⟨rfl, ?_⟩)
    | (refine Held.wpListIn_one (r := none) rfl (by intro c e; cases e) ?_; refine wpList_fld0 (w := u1) rfl rfl rfl Tryd.underlying68 rfl (by kernel_rfl) ?_; refine wpList_nil ⟨rfl, ?_⟩)
    | (refine Held.wpListIn_one (r := none) rfl (by intro c e; cases e) ?_; refine Held.wpList_run (w := u1) rfl (v := .int .i64 (r : Int)) (Bi.y_sub (S := fun _ => True) ((r : Int) + 1) 1 rfl rfl rfl HS.out _ trivial) ?_; refine wpList_nil ⟨rfl, ?_⟩)
    | (refine Held.wpListIn_one (r := none) rfl (by intro c e; cases e) ?_; refine Held.wpList_alloc_cell (w := u1) rfl 3 rfl (.int .i64 0) (by kernel_rfl) rfl ?_; intro u2 q2 g2 z2; refine wpList_nil ⟨rfl, ?_⟩)
    | (refine Held.wpListIn_one (r := none) rfl (by intro c e; cases e) ?_; refine Held.wpList_store_box (w := u2) rfl 3 _ _ rfl u1.heap.size rfl 3 _ (.int .i64 (r : Int)) rfl q2 (by kernel_rfl) rfl rfl ?_; intro u3 q3 g3; have q3 : Blk u3 u1.heap.size 3 #[.int .i64 (r : Int)] := q3; have b3 : Below u1.heap.size u1 u3 := ((Below.refl _ u1).grown g2 (Nat.le_refl _) (by simp)).grown g3 g2.size (fun r e => by cases e; exact Nat.le_refl _); have qg3 := qg1.after b3; have cg3 := qg3.cell (i := 3) rfl; refine wpList_nil ⟨rfl, ?_⟩)
    | (refine Held.wpListIn_one (r := none) rfl (by intro c e; cases e) ?_; refine wpList_fld0 (w := u3) rfl rfl rfl Tryd.underlying68 rfl (by kernel_rfl) ?_; refine wpList_nil ⟨rfl, ?_⟩)
    | (refine Held.wpListIn_one (r := none) rfl (by intro c e; cases e) ?_; refine Held.wpList_alloc_cell (w := u3) rfl 3 rfl (.int .i64 0) (by kernel_rfl) rfl ?_; intro u4 q4 g4 z4; refine wpList_nil ⟨rfl, ?_⟩)
    | (refine Held.wpListIn_one (r := none) rfl (by intro c e; cases e) ?_; refine Held.wpList_store_box (w := u4) rfl 3 _ _ rfl u3.heap.size rfl 3 _ (.int .i64 (fi : Int)) rfl q4 (by kernel_rfl) rfl rfl ?_; intro u5 q5 g5; have q5 : Blk u5 u3.heap.size 3 #[.int .i64 (fi : Int)] := q5; have b5 : Below u3.heap.size u3 u5 := ((Below.refl _ u3).grown g4 (Nat.le_refl _) (by simp)).grown g5 g4.size (fun r e => by cases e; exact Nat.le_refl _); have bb : Below W.heap.size W u5 := b1.trans ((b3.mono b1.size).trans (b5.mono (Nat.le_trans b1.size b3.size))); have qj5 := qj.after bb; have cj5 := qj5.cell (i := 2) rfl; have qr5 := q3.after b5; have cr5 := qr5.cell (i := 0) rfl; refine wpList_nil ⟨rfl, ?_⟩)
    | (refine Held.wpListIn_one (r := none) rfl (by intro c e; cases e) ?_; refine wpList_fld0 (w := u5) rfl rfl rfl Tryd.underlying62 rfl (by kernel_rfl) ?_; refine wpList_nil ⟨rfl, ?_⟩))
  refine ⟨trivial, ?_⟩
  refine (callsIn_wide.2 (Bi.round_any (M : Int) (r : Int) u5)).mono ?_
  rintro e u6 ⟨d1, d2, rfl, qd1, qd2, hd1, hd2, b6⟩
  have qy6 := (q1.after (b3.trans (b5.mono b3.size))).after b6
  have qr6 := qr5.after b6
  have qn6 := q5.after b6
  have b7 := bb.trans (b6.mono bb.size)
  have qg6 := qg.after b7
  have qj6 := qj.after b7
  have hT6 := hT0.below b7 hT0.lt
  have J6 := hJ.all h0 b7
  have lgj : bg < W.heap.size ∧ bj < W.heap.size ∧ 1 < W.heap.size := ⟨qg.lt, qj.lt, hT0.lt⟩
  have ly : W.heap.size < u1.heap.size := q1.lt
  have lr : u1.heap.size < u3.heap.size := q3.lt
  have ln : u3.heap.size < u5.heap.size := q5.lt
  have l56 := b6.size
  have l76 := b7.size
  have hit := HRD.out d1 d2 u6 hT6 qd1 qd2
  generalize hby : W.heap.size = by_ at *
  generalize hbr : u1.heap.size = br at *
  generalize hbn : u3.heap.size = bn at *
  clear b1 b3 b5 bb b6 b7 qg1 cg1 qg3 cg3 qj5 cj5 qr5 cr5 q1 q2 q3 q4 q5 g1 g2 g3 g4 g5 z1 z2 z4 h0 qg qj hT0 HRD HS hby hbr hbn
  gi_wp2_with fail
  refine wpIn_rangeFunc_p rfl hN (gf := 75) (lb := #[.pointer (some ⟨d1, 0, none⟩), .pointer (some ⟨d2, 0, none⟩)]) rfl trivial (enters_of Tryd.func75 (by kernel_rfl) rfl)
    hit (Below.refl _ _) (fun _ => rfl) (fun _ h => h.elim)
    (Inn J (fun b => b = by_ ∨ b = br ∨ b = bn) (fun b => b = bg ∨ b = bj ∨ b = 1) (fun k X => Blk X by_ 60 #[.func (.yield l) #[] #[]] ∧ Blk X br 3 #[.int .i64 (r : Int)] ∧ Blk X bn 3 #[.int .i64 ((fi + k : Nat) : Int)] ∧ Blk X bg 68 #[.int .i64 kd, .int .i64 ((r : Int) + 1), .int .i64 (sz : Int), .int .i64 (fi : Int)] ∧ Blk X bj 62 #[.int .i64 K, .int .i64 (I : Int), .int .i64 (M : Int)] ∧ Bi.TzT X) id)
    (fun c pv k X => c = .ret ∧ Out Jx pv k X) ?hI ?hIx ?h0
    (fun pv k x a' X => Inn J (fun b => b = by_ ∨ b = br ∨ b = bn) (fun b => b = bg ∨ b = bj ∨ b = 1) (fun k X => Blk X by_ 60 #[.func (.yield l) #[] #[]] ∧ Blk X br 3 #[.int .i64 (r : Int)] ∧ Blk X bn 3 #[.int .i64 ((fi + k : Nat) : Int)] ∧ Blk X bg 68 #[.int .i64 kd, .int .i64 ((r : Int) + 1), .int .i64 (sz : Int), .int .i64 (fi : Int)] ∧ Blk X bj 62 #[.int .i64 K, .int .i64 (I : Int), .int .i64 (M : Int)] ∧ Bi.TzT X) id pv k X ∧ a' = { tmps := #[.func (.yield l) #[] #[], .pointer (some ⟨bg, 0, none⟩), .pointer (some ⟨bj, 0, none⟩), .pointer (some ⟨by_, 0, none⟩), .pointer (some ⟨br, 0, none⟩), .pointer (some ⟨bn, 0, none⟩), .int .i64 (x : Int), .int .i64 ((x : Int) + dd), .pointer (some ⟨bg, 1, none⟩), .int .i64 ((r : Int) + 1), .int .i64 (r : Int), .pointer (some ⟨bg, 3, none⟩), .int .i64 (fi : Int), .pointer (some ⟨bj, 2, none⟩), .int .i64 (M : Int), .int .i64 (r : Int), .func (.func 75) #[] #[.pointer (some ⟨d1, 0, none⟩), .pointer (some ⟨d2, 0, none⟩)], .int .i64 (x : Int), .int .i64 ((x : Int) + dd), undef, undef, undef, undef, undef, undef, undef, undef, undef, undef, undef, undef, undef, undef, undef, undef, undef, undef], defers := [] }) ?hIb ?assign ?body ?done ?stop
  case hI =>
    refine stay_inn hJ ?_
    rintro k X X' ⟨a1, a2, a3, a4, a5, a6⟩ kp
    exact ⟨kp_blk kp a1 (by simp), kp_blk kp a2 (by simp), kp_blk kp a3 (by simp), kp_blk kp a4 (by simp), kp_blk kp a5 (by simp), kp_tz kp a6 (by simp)⟩
  case hIx => exact fun c => stay_and stay_const (stay_out hJx)
  case h0 =>
    refine inn_start J6 ?_ ?_ ⟨qy6, qr6, qn6, qg6, qj6, hT6⟩
    · intro b hb
      rcases hb with rfl | rfl | rfl <;> exact .inr ⟨by omega, by omega⟩
    · intro b hb
      rcases hb with (rfl | rfl | rfl) | (rfl | rfl | rfl) <;> omega
  case hIb =>
    rintro pv k x a' X X' b ⟨h1, h2⟩ hb hg
    refine ⟨(stay_inn hJ ?_).put _ _ _ _ _ h1 hb hg, h2⟩
    rintro k X X' ⟨a1, a2, a3, a4, a5, a6⟩ kp
    exact ⟨kp_blk kp a1 (by simp), kp_blk kp a2 (by simp), kp_blk kp a3 (by simp), kp_blk kp a4 (by simp), kp_blk kp a5 (by simp), kp_tz kp a6 (by simp)⟩
  case assign =>
    rintro l' pv k x X C hl' hI hat hC
    simp only [Held.zip_two, List.setIfInBounds_toArray, List.set_cons_zero, List.set_cons_succ]
    gi_wp2_with fail
    exact hC _ _ (KeepsP.refl _ _) ⟨hI, rfl⟩
  case body =>
    rintro l' pv k x a' X hl' - ⟨⟨pvo, p1, p2, p3, p4, p5, qy, qr, qn, qg, qj, hT0⟩, rfl⟩ hat
    have hxM := HLT.out k x hat
    have hk32 := HKL.out k x hat
    have c0 := (Below.refl X.heap.size X).drew
    have HYY := fun (W1 : World) (hb : Below X.heap.size X W1) => HY.out pvo k x W1 hat (hJ.below p2 hb)
    have cn := qn.cell (i := 0) rfl
    gi_wp2_with fail
    refine Held.wpIn_region_g (r := some l') (T := fun W => Below X.heap.size X W) (s := 14) rfl (by kernel_rfl) (by kernel_rfl) (fun a w h => h) ?_
    change Held.wpAnyG _ _ _ _ _ _ _ _ _ _ _ X.drew
    refine Held.takeG (v := .func (.yield l) #[] #[]) 0 (some 19) [14] rfl rfl (by kernel_rfl) (by kernel_rfl) (by kernel_rfl) (by kernel_rfl) (fun _ _ _ h => h) rfl (Held.y_load rfl rfl (by kernel_rfl) (fun W hW => (qy.after hW).cell (i := 0) rfl)) c0 ?_
    simp only [Act.put, Z1, Z2, Z3]
    refine Held.takeG (v := .int .i64 ((fi + k : Nat) : Int)) 1 (some 20) [14] rfl rfl (by kernel_rfl) (by kernel_rfl) (by kernel_rfl) (by kernel_rfl) (fun _ _ _ h => h) rfl (Held.y_load rfl rfl (by kernel_rfl) (fun W hW => (qn.after hW).cell (i := 0) rfl)) c0 ?_
    simp only [Act.put, Z1, Z2, Z3]
    refine Held.takeG (v := .pointer (some ⟨bg, 0, none⟩)) 2 (some 21) [3, 13, 14] rfl rfl (by kernel_rfl) (by kernel_rfl) (by kernel_rfl) (by kernel_rfl) (fun _ _ _ h => h) rfl (Held.y_field (k := 0) (s := 0) rfl rfl Tryd.underlying68 rfl (by kernel_rfl) rfl) c0 ?_
    simp only [Act.put, Z1, Z2, Z3]
    refine Held.takeG (v := .int .i64 kd) 3 (some 22) [13, 14] rfl rfl (by kernel_rfl) (by kernel_rfl) (by kernel_rfl) (by kernel_rfl) (fun _ _ _ h => h) rfl (Held.y_load rfl rfl (by kernel_rfl) (fun W hW => (qg.after hW).cell (i := 0) rfl)) c0 ?_
    simp only [Act.put, Z1, Z2, Z3]
    refine Held.takeG (v := .pointer (some ⟨bg, 1, none⟩)) 4 (some 23) [5, 13, 14] rfl rfl (by kernel_rfl) (by kernel_rfl) (by kernel_rfl) (by kernel_rfl) (fun _ _ _ h => h) rfl (Held.y_field (k := 1) (s := 0) rfl rfl Tryd.underlying68 rfl (by kernel_rfl) rfl) c0 ?_
    simp only [Act.put, Z1, Z2, Z3]
    refine Held.takeG (v := .int .i64 ((r : Int) + 1)) 5 (some 24) [13, 14] rfl rfl (by kernel_rfl) (by kernel_rfl) (by kernel_rfl) (by kernel_rfl) (fun _ _ _ h => h) rfl (Held.y_load rfl rfl (by kernel_rfl) (fun W hW => (qg.after hW).cell (i := 1) rfl)) c0 ?_
    simp only [Act.put, Z1, Z2, Z3]
    refine Held.takeG (v := .int .i64 (x : Int)) 6 (some 25) [13, 14] rfl rfl (by kernel_rfl) (by kernel_rfl) (by kernel_rfl) (by kernel_rfl) (fun _ _ _ h => h) rfl (Held.y_move rfl rfl) c0 ?_
    simp only [Act.put, Z1, Z2, Z3]
    refine Held.takeG (v := .int .i64 ((x : Int) + dd)) 7 (some 26) [13, 14] rfl rfl (by kernel_rfl) (by kernel_rfl) (by kernel_rfl) (by kernel_rfl) (fun _ _ _ h => h) rfl (Held.y_move rfl rfl) c0 ?_
    simp only [Act.put, Z1, Z2, Z3]
    refine Held.takeG (v := .pointer (some ⟨bj, 2, none⟩)) 8 (some 27) [9, 12, 13, 14] rfl rfl (by kernel_rfl) (by kernel_rfl) (by kernel_rfl) (by kernel_rfl) (fun _ _ _ h => h) rfl (Held.y_field (k := 2) (s := 0) rfl rfl Tryd.underlying62 rfl (by kernel_rfl) rfl) c0 ?_
    simp only [Act.put, Z1, Z2, Z3]
    refine Held.takeG (v := .int .i64 (M : Int)) 9 (some 28) [12, 13, 14] rfl rfl (by kernel_rfl) (by kernel_rfl) (by kernel_rfl) (by kernel_rfl) (fun _ _ _ h => h) rfl (Held.y_load rfl rfl (by kernel_rfl) (fun W hW => (qj.after hW).cell (i := 2) rfl)) c0 ?_
    simp only [Act.put, Z1, Z2, Z3]
    refine Held.takeG (v := .int .i64 (r : Int)) 10 (some 29) [12, 13, 14] rfl rfl (by kernel_rfl) (by kernel_rfl) (by kernel_rfl) (by kernel_rfl) (fun _ _ _ h => h) rfl (Held.y_load rfl rfl (by kernel_rfl) (fun W hW => (qr.after hW).cell (i := 0) rfl)) c0 ?_
    simp only [Act.put, Z1, Z2, Z3]
    refine Held.takeG (v := .int .i64 (x : Int)) 11 (some 30) [12, 13, 14] rfl rfl (by kernel_rfl) (by kernel_rfl) (by kernel_rfl) (by kernel_rfl) (fun _ _ _ h => h) rfl (Held.y_move rfl rfl) c0 ?_
    simp only [Act.put, Z1, Z2, Z3]
    refine Held.oneG 12 (by kernel_rfl) rfl ?_
    refine Held.op_call 12 (some 31) 70 #[.int .i64 (M : Int), .int .i64 (r : Int), .int .i64 (x : Int)] rfl rfl rfl rfl (enters_of Tryd.func70 (by kernel_rfl) rfl) (by simp [Act.eval]) (HUP.out x X.drew hxM (hT0.below (Below.refl X.heap.size X).drew hT0.lt)) ?_
    rintro e w1 ⟨rfl, rfl⟩
    refine ⟨_, rfl, c0, ?_⟩
    simp only [Act.put, Z1, Z2, Z3]
    refine Held.takeG (v := .agg #[.int .i64 kd, .int .i64 ((r : Int) + 1), .int .i64 (x : Int), .int .i64 ((x : Int) + dd), .bool (UV x)]) 13 (some 32) [14] rfl rfl (by kernel_rfl) (by kernel_rfl) (by kernel_rfl) (by kernel_rfl) (fun _ _ _ h => h) rfl (Held.y_build rfl (by kernel_rfl)) c0 ?_
    simp only [Act.put, Z1, Z2, Z3]
    refine Held.endG (by kernel_rfl) ?_
    refine Held.opIn_yield 14 (some 33) (r := some l') rfl #[.int .i64 ((fi + k : Nat) : Int), .agg #[.int .i64 kd, .int .i64 ((r : Int) + 1), .int .i64 (x : Int), .int .i64 ((x : Int) + dd), .bool (UV x)]] rfl rfl rfl rfl rfl (by simp [Act.eval]) (HYY X.drew c0) ?_
    rintro e X2 ⟨kp, hor⟩
    have hbool : ∃ bb : Bool, e = .returned (.bool bb) ∧ ((bb = true ∧ J _ (k + 1) X2) ∨ (bb = false ∧ Jx _ (k + 1) X2)) := hor.elim (fun h => ⟨true, h.1, .inl ⟨rfl, h.2⟩⟩) (fun h => ⟨false, h.1, .inr ⟨rfl, h.2⟩⟩)
    clear hor
    obtain ⟨bb, rfl, hor⟩ := hbool
    refine ⟨_, rfl, ?_⟩
    simp only [Act.put, Z1, Z2, Z3]
    refine Held.oneIn 15 (some 34) (r := some l') rfl (by kernel_rfl) (by kernel_rfl) (fun a w h => h) rfl rfl rfl (Held.y_not rfl rfl rfl) ?_
    simp only [Act.put, Z1, Z2, Z3]
    refine wpAnyIn_done (by kernel_rfl) ?_ _
    have kX : KeepsP (fun b => False ∨ pv b) X X2 := (KeepsP.of_below c0).trans (kp.less (fun b hb => .inr (p1 b (hb.elim (fun h => h.elim) id))))
    have ks : ∀ b, (b = by_ ∨ b = br ∨ b = bn) → ∀ o, X.heap[b]? = some o → X2.heap[b]? = some o := fun b hb o ho => kp.block b o (.inr (p3 b hb)) ((KeepsP.of_below (S := fun _ => True) c0).block b o trivial ho)
    have kn : ∀ b, (b = bg ∨ b = bj ∨ b = 1) → ∀ o, X.heap[b]? = some o → X2.heap[b]? = some o := fun b hb o ho => kp.block b o (.inl hb) ((KeepsP.of_below (S := fun _ => True) c0).block b o trivial ho)
    have qy2 : Blk X2 by_ 60 #[.func (.yield l) #[] #[]] := ks by_ (by simp) _ qy
    have qr2 : Blk X2 br 3 #[.int .i64 (r : Int)] := ks br (by simp) _ qr
    have qn2 : Blk X2 bn 3 #[.int .i64 ((fi + k : Nat) : Int)] := ks bn (by simp) _ qn
    have qg2 : Blk X2 bg 68 #[.int .i64 kd, .int .i64 ((r : Int) + 1), .int .i64 (sz : Int), .int .i64 (fi : Int)] := kn bg (.inl rfl) _ qg
    have qj2 : Blk X2 bj 62 #[.int .i64 K, .int .i64 (I : Int), .int .i64 (M : Int)] := kn bj (.inr (.inl rfl)) _ qj
    have hT2 : Bi.TzT X2 := by
      obtain ⟨t, fr, e⟩ := hT0
      exact ⟨t, fr, kn _ (.inr (.inr rfl)) _ e⟩
    have hsz : X.heap.size ≤ X2.heap.size := kX.size
    clear kp ks kn HYY qy qr qn qg qj hT0 cn HUP
    rcases hor with ⟨rfl, J2⟩ | ⟨rfl, x2⟩
    · have cn2 := qn2.cell (i := 0) rfl
      have hadd : IntKind.i64.wrap (((fi + k : Nat) : Int) + 1) = ((fi + (k + 1) : Nat) : Int) := by rw [IntKind.wrap_i64]; omega
      have HA := Lib.hid hadd
      have pn : ¬ pv bn := (p4 bn (by simp)).1
      have bo : pvo bn := p3 bn (by simp)
      clear hadd
      gi_wp2_with (first
        | (refine Held.wpListIn_one (r := some l') rfl (by intro c e; cases e) ?_; refine Held.wpList_run (w := X2) rfl (v := .int .i64 ((fi + (k + 1) : Nat) : Int)) (Held.y_int (S := fun _ => True) (a := ((fi + k : Nat) : Int)) (b := 1) rfl rfl rfl (Held.run_add 3 .i64 HA.out) _ trivial) ?_; refine wpList_nil ⟨rfl, ?_⟩)
        | (refine Held.wpListIn_one (r := some l') rfl (by intro c e; cases e) ?_; refine Held.wpList_store_box (w := X2) rfl 3 _ _ rfl bn rfl 3 _ (.int .i64 ((fi + (k + 1) : Nat) : Int)) rfl qn2 (by kernel_rfl) rfl rfl ?_; intro X3 q3 g3; refine wpList_nil ⟨rfl, ?_⟩))
      have ne : ∀ b : Nat, bn ≠ b → some b ≠ some bn := fun b hb e => by injection e with e; exact hb e.symm
      refine ⟨kX.trans (KeepsP.of_grown g3 (fun b e hb => by injection e with e; subst e; exact hb.elim (fun h => h) pn)), pvo, p1, hJ.put _ _ _ _ bn J2 bo g3, p3, fun b hb => ⟨(p4 b hb).1, by have := (p4 b hb).2; have := g3.size; omega⟩, fun b hb => by have := p5 b hb; have := g3.size; omega, qy2.grown g3 (ne _ (by omega)), qr2.grown g3 (ne _ (by omega)), q3, qg2.grown g3 (ne _ (by omega)), qj2.grown g3 (ne _ (by omega)), ?_⟩
      obtain ⟨t, fr, e⟩ := hT2
      exact ⟨t, fr, (g3.block _ (Array.getElem?_eq_some_iff.1 e).1 (ne _ (by omega))).trans e⟩
    · gi_wp2_with fail
      exact ⟨kX, rfl, pvo, _, p1, x2⟩
  case stop =>
    rintro D cc pv k X ⟨rfl, pvo, k', p1, x2⟩ hD hDh
    gi_wp2_with fail
    refine ⟨by simp, .inl ⟨_, _, rfl, run_takeDeferred hDh, ?_⟩⟩
    exact ⟨_, results_none rfl _ _ _, ⟨_, rfl⟩, .inr ⟨pvo, k', hJx.put _ _ _ _ D x2 (p1 D hD) (grownBy_putObj' _ _ _)⟩⟩
  case done =>
    rintro D pv k X hat ⟨pvo, p1, p2, -⟩ hD hDh
    gi_wp2_with fail
    refine ⟨by simp, .inl ⟨_, _, rfl, run_takeDeferred hDh, ?_⟩⟩
    exact ⟨_, results_none rfl _ _ _, ⟨_, rfl⟩, .inl ⟨pvo, k, HEN.out k hat, hJ.put _ _ _ _ D p2 (p1 D hD) (grownBy_putObj' _ _ _)⟩⟩
end Go.Proofs.YtipmfficjomcoaaDoor.Sh
namespace Go.Proofs.YtipmfficjomcoaaDoor.Sh
open Go.RowKit Go.Shelf Mem Held Go.Proofs.YtipmfficjomcoaaDoor.Range Sl
attribute [local go_sem] Oper.semAt_some
attribute [local irreducible] wpList wpListIn Calls
theorem grs_says {K : Int} {I mp M T k : Nat} {g : Gr} (h : JobP K I mp M T) (hg : (grs I mp M T)[k]? = some g) : (g.rd = 0 ∨ ∃ r : Nat, r < T ∧ g.rd = (r : Int) + 1) ∧ g.sz ≤ 32 ∧ g.fi ≤ 1000 ∧ 1 ≤ g.kd ∧ g.kd ≤ 5 := by
  have hm := List.mem_of_getElem? hg
  have : ∃ c i, 1 ≤ c ∧ c ≤ 5 ∧ i < nrK T c ∧ g = grK I mp M T c i := by
    unfold grs grsK at hm
    simp only [List.mem_append, List.mem_map, List.mem_range] at hm
    rcases hm with (((⟨i, hi, rfl⟩ | ⟨i, hi, rfl⟩) | ⟨i, hi, rfl⟩) | ⟨i, hi, rfl⟩) | ⟨i, hi, rfl⟩
    · exact ⟨1, i, by omega, by omega, hi, rfl⟩
    · exact ⟨2, i, by omega, by omega, hi, rfl⟩
    · exact ⟨3, i, by omega, by omega, hi, rfl⟩
    · exact ⟨4, i, by omega, by omega, hi, rfl⟩
    · exact ⟨5, i, by omega, by omega, hi, rfl⟩
  obtain ⟨c, i, h1, h5, hi, rfl⟩ := this
  refine ⟨?_, sz_le h c, ?_, by show (1 : Int) ≤ (c : Int); omega, by show (c : Int) ≤ 5; omega⟩
  · show ((frK c + i : Nat) : Int) = 0 ∨ ∃ r : Nat, r < T ∧ ((frK c + i : Nat) : Int) = (r : Int) + 1
    unfold frK nrK at *
    split
    · rename_i hc
      rw [if_pos hc] at hi
      exact .inr ⟨i, hi, by omega⟩
    · rename_i hc
      rw [if_neg hc] at hi
      exact .inl (by omega)
  · show cnK I mp M T c + i * szK I mp M c ≤ 1000
    have e := cn_step I mp M T h1
    have := cn_le h (show c + 1 ≤ 6 by omega)
    have := Nat.mul_le_mul_right (szK I mp M c) (Nat.le_of_lt hi)
    omega
set_option maxRecDepth 100000 in
set_option maxHeartbeats 4000000 in
theorem singles_any (K : Int) (I M : Nat) (g : Gr) (w : World) :
    Calls Tryd.prog 57 #[.agg #[.int .i64 K, .int .i64 (I : Int), .int .i64 (M : Int)], .agg #[.int .i64 g.kd, .int .i64 g.rd, .int .i64 (g.sz : Int), .int .i64 (g.fi : Int)]] w fun e w' => ∃ bg bj : Nat, e = .returned (.func (.func 67) #[] #[.pointer (some ⟨bg, 0, none⟩), .pointer (some ⟨bj, 0, none⟩)]) ∧ Blk w' bg 68 #[.int .i64 g.kd, .int .i64 g.rd, .int .i64 (g.sz : Int), .int .i64 (g.fi : Int)] ∧ Blk w' bj 62 #[.int .i64 K, .int .i64 (I : Int), .int .i64 (M : Int)] ∧ (w.heap.size ≤ bg ∧ bg < w'.heap.size) ∧ (w.heap.size ≤ bj ∧ bj < w'.heap.size) ∧ Below w.heap.size w w' := by
  go_enter Tryd.func57, Tryd.ntmps57
  go_wp2_with (first
    | (refine wpList_box_blk (w := w) rfl 62 _ rfl _ rfl ?_; intro u1 qu1 gu1 zu1)
    | (refine wpList_box_blk (w := u1) rfl 68 _ rfl _ rfl ?_; intro u2 qu2 gu2 zu2))
  go_ret
  have q1 := qu1.grown gu2 (by simp)
  exact ⟨_, _, rfl, qu2, q1, ⟨gu1.size, qu2.lt⟩, ⟨Nat.le_refl _, q1.lt⟩, ((Below.refl _ w).grown gu1 (Nat.le_refl _) (by simp)).grown gu2 gu1.size (by simp)⟩
set_option maxRecDepth 100000 in
set_option maxHeartbeats 4000000 in
theorem pairs_any (K : Int) (I M : Nat) (g : Gr) (w : World) :
    Calls Tryd.prog 58 #[.agg #[.int .i64 K, .int .i64 (I : Int), .int .i64 (M : Int)], .agg #[.int .i64 g.kd, .int .i64 g.rd, .int .i64 (g.sz : Int), .int .i64 (g.fi : Int)]] w fun e w' => ∃ bg bj : Nat, e = .returned (.func (.func 68) #[] #[.pointer (some ⟨bg, 0, none⟩), .pointer (some ⟨bj, 0, none⟩)]) ∧ Blk w' bg 68 #[.int .i64 g.kd, .int .i64 g.rd, .int .i64 (g.sz : Int), .int .i64 (g.fi : Int)] ∧ Blk w' bj 62 #[.int .i64 K, .int .i64 (I : Int), .int .i64 (M : Int)] ∧ (w.heap.size ≤ bg ∧ bg < w'.heap.size) ∧ (w.heap.size ≤ bj ∧ bj < w'.heap.size) ∧ Below w.heap.size w w' := by
  go_enter Tryd.func58, Tryd.ntmps58
  go_wp2_with (first
    | (refine wpList_box_blk (w := w) rfl 62 _ rfl _ rfl ?_; intro u1 qu1 gu1 zu1)
    | (refine wpList_box_blk (w := u1) rfl 68 _ rfl _ rfl ?_; intro u2 qu2 gu2 zu2))
  go_ret
  have q1 := qu1.grown gu2 (by simp)
  exact ⟨_, _, rfl, qu2, q1, ⟨gu1.size, qu2.lt⟩, ⟨Nat.le_refl _, q1.lt⟩, ((Below.refl _ w).grown gu1 (Nat.le_refl _) (by simp)).grown gu2 gu1.size (by simp)⟩
set_option maxRecDepth 100000 in
set_option maxHeartbeats 4000000 in
theorem tasks_any (K : Int) (I mp M T k : Nat) (g : Gr) (h : JobP K I mp M T) (hg : (grs I mp M T)[k]? = some g) (w : World) (hT : Bi.TzT w) :
    Calls Tryd.prog 35 #[.agg #[.int .i64 K, .int .i64 (I : Int), .int .i64 (M : Int)], .agg #[.int .i64 g.kd, .int .i64 g.rd, .int .i64 (g.sz : Int), .int .i64 (g.fi : Int)]] w fun e w' => ∃ (gf : Nat) (lb : Array Value) (Nd : Nat → Prop), e = .returned (.func (.func gf) #[] lb) ∧ Enters Tryd.prog gf ∧ (∀ N, 1 ≤ N → SeqP Fence.wide N Tryd.prog gf lb Nd encT (atG mp M g) w') ∧ (∀ b, Nd b → b = 1 ∨ (w.heap.size ≤ b ∧ b < w'.heap.size)) ∧ Below w.heap.size w w' := by
  obtain ⟨hr, hz, hf, -, -⟩ := grs_says h hg
  by_cases h0 : g.rd = 0
  · have hdec : decide (g.rd = 0) = true := decide_eq_true h0
    have HS := Lib.hid (fun (bg bj : Nat) (W : World) (qg : Blk W bg 68 #[.int .i64 g.kd, .int .i64 g.rd, .int .i64 (g.sz : Int), .int .i64 (g.fi : Int)]) (q : Blk W bj 62 #[.int .i64 K, .int .i64 (I : Int), .int .i64 (M : Int)]) (N : Nat) => singles_p N bg bj K I mp M T g h W q qg h0 (by omega) (by omega))
    clear h h0 hr hz hf hg
    go_enter Tryd.func35, Tryd.ntmps35
    go_wp2_with (first
      | (refine wpList_box_blk (w := w) rfl 62 _ rfl _ rfl ?_; intro u1 qu1 gu1 zu1)
      | (refine wpList_box_blk (w := u1) rfl 68 _ rfl _ rfl ?_; intro u2 qu2 gu2 zu2; have qu1 := qu1.grown gu2 (by simp); have bo2 : Below w.heap.size w u2 := ((Below.refl _ w).grown gu1 (Nat.le_refl _) (by simp)).grown gu2 gu1.size (by simp); have hc1 := qu2.cell (i := 1) rfl)
      | (refine wpList_fld0 (w := u2) rfl rfl rfl Tryd.underlying68 rfl (by kernel_rfl) ?_)
      | (refine Held.wpList_run (w := u2) rfl (v := .bool true) (Held.y_eqI (S := fun _ => True) rfl rfl rfl hdec _ trivial) ?_)
      | (refine wpList_load_blk (w := u2) rfl 62 _ rfl (w.heap.size) 3 rfl 62 _ qu1 _ Tryd.underlying62 rfl (by kernel_rfl) rfl ?_)
      | (refine wpList_load_blk (w := u2) rfl 68 _ rfl (u1.heap.size) 4 rfl 68 _ qu2 _ Tryd.underlying68 rfl (by kernel_rfl) rfl ?_))
    refine (singles_any K I M g u2).mono ?_
    rintro e u3 ⟨bg, bj, rfl, q1, q2, l1, l2, b3⟩
    have b4 := bo2.trans (b3.mono bo2.size)
    have hs := bo2.size
    clear hdec hc1
    go_wp2_with fail
    go_ret
    exact ⟨_, _, _, rfl, enters_of Tryd.func67 (by kernel_rfl) rfl, fun N _ => HS.out bg bj u3 q1 q2 N, fun b hb => .inr (by rcases hb with rfl | rfl <;> omega), b4⟩
  · obtain ⟨r, hrT, hrd⟩ := hr.resolve_left h0
    have hdec : decide (g.rd = 0) = false := decide_eq_false h0
    obtain ⟨kd, rd, sz, fi⟩ := g
    simp only at hrd hz hf hdec ⊢
    subst hrd
    have HS := Lib.hid (fun (bg bj : Nat) (W : World) (qg : Blk W bg 68 #[.int .i64 kd, .int .i64 ((r : Int) + 1), .int .i64 (sz : Int), .int .i64 (fi : Int)]) (q : Blk W bj 62 #[.int .i64 K, .int .i64 (I : Int), .int .i64 (M : Int)]) (hT : Bi.TzT W) (N : Nat) (hN : 1 ≤ N) => pairs_p N bg bj K I mp M T r sz fi kd h hN W q qg hT hrT (by omega))
    have HPA := Lib.hid (fun (W : World) => pairs_any K I M ⟨kd, (r : Int) + 1, sz, fi⟩ W)
    clear h h0 hr hz hf hg hrT
    go_enter Tryd.func35, Tryd.ntmps35
    go_wp2_with (first
      | (refine wpList_box_blk (w := w) rfl 62 _ rfl _ rfl ?_; intro u1 qu1 gu1 zu1)
      | (refine wpList_box_blk (w := u1) rfl 68 _ rfl _ rfl ?_; intro u2 qu2 gu2 zu2; have qu1 := qu1.grown gu2 (by simp); have bo2 : Below w.heap.size w u2 := ((Below.refl _ w).grown gu1 (Nat.le_refl _) (by simp)).grown gu2 gu1.size (by simp); have hc1 := qu2.cell (i := 1) rfl)
      | (refine wpList_fld0 (w := u2) rfl rfl rfl Tryd.underlying68 rfl (by kernel_rfl) ?_)
      | (refine Held.wpList_run (w := u2) rfl (v := .bool false) (Held.y_eqI (S := fun _ => True) rfl rfl rfl hdec _ trivial) ?_)
      | (refine wpList_load_blk (w := u2) rfl 62 _ rfl (w.heap.size) 3 rfl 62 _ qu1 _ Tryd.underlying62 rfl (by kernel_rfl) rfl ?_)
      | (refine wpList_load_blk (w := u2) rfl 68 _ rfl (u1.heap.size) 4 rfl 68 _ qu2 _ Tryd.underlying68 rfl (by kernel_rfl) rfl ?_))
    refine (HPA.out u2).mono ?_
    rintro e u3 ⟨bg, bj, rfl, q1, q2, l1, l2, b3⟩
    have b4 := bo2.trans (b3.mono bo2.size)
    have hs := bo2.size
    have hT3 := hT.below b4 hT.lt
    clear hdec hc1
    go_wp2_with fail
    go_ret
    exact ⟨_, _, _, rfl, enters_of Tryd.func68 (by kernel_rfl) rfl, fun N hN => HS.out bg bj u3 q1 q2 hT3 N hN, fun b hb => hb.elim (fun e => .inr (by omega)) (fun hb => hb.elim (fun e => .inr (by omega)) .inl), b4⟩
def atA (I mp M T k : Nat) : Option (Nat × Tk) := ((tasksT I mp M T)[k]?).map (fun t => (k, t))
theorem atA_group {K : Int} {I mp M T k i : Nat} {g : Gr} {y : Nat × Tk} (h : JobP K I mp M T) (hg : (grs I mp M T)[k]? = some g) (hy : atG mp M g i = some y) : atA I mp M T (g.fi + i) = some y := by
  unfold atG at hy
  obtain ⟨t, ht, rfl⟩ := Option.map_eq_some_iff.1 hy
  obtain ⟨h1, h2⟩ := chn_at (grs_chn h).1 hg
  have hi : i < g.sz := by rw [← h2]; exact (List.getElem?_eq_some_iff.1 ht).1
  unfold atA
  rw [← grs_tasks, flat_at (grs_chn h).1 hg hi, ht]
  rfl
theorem atG_end {K : Int} {I mp M T k i : Nat} {g : Gr} (h : JobP K I mp M T) (hg : (grs I mp M T)[k]? = some g) (hi : i ≤ g.sz) (hn : atG mp M g i = none) : i = g.sz := by
  obtain ⟨h1, h2⟩ := chn_at (grs_chn h).1 hg
  unfold atG at hn
  rw [Option.map_eq_none_iff, List.getElem?_eq_none_iff, h2] at hn
  omega
theorem atG_lt {K : Int} {I mp M T k i : Nat} {g : Gr} {y : Nat × Tk} (h : JobP K I mp M T) (hg : (grs I mp M T)[k]? = some g) (hy : atG mp M g i = some y) : i < g.sz ∧ y.1 = g.fi + i ∧ (tasksT I mp M T)[g.fi + i]? = some y.2 := by
  obtain ⟨h1, h2⟩ := chn_at (grs_chn h).1 hg
  have ha := atA_group h hg hy
  unfold atG at hy
  obtain ⟨t, ht, rfl⟩ := Option.map_eq_some_iff.1 hy
  refine ⟨by rw [← h2]; exact (List.getElem?_eq_some_iff.1 ht).1, rfl, ?_⟩
  unfold atA at ha
  obtain ⟨t', ht', he⟩ := Option.map_eq_some_iff.1 ha
  injection he with _ he
  rw [ht', he]
def frstA (I mp M T k : Nat) : Nat := (((grs I mp M T).take k).flatMap (tkOf mp M)).length
end Go.Proofs.YtipmfficjomcoaaDoor.Sh
