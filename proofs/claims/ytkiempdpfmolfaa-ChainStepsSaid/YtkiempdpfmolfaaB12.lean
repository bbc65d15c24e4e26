/-
  The document's own Step (dominoref15), by its contract.
-/
import Derived.Test.YtkiempdpfmolfaaB11
import Derived.Test.YtkiempdpfmolfaaB9
import Derived.Test.YtkiempdpfmolfaaB6
set_option linter.unusedVariables false
namespace Go.Proofs.Ytkiempdpfmolfaa.Cn
open Go.RowKit Go.Shelf Go.Proofs.Ytkiempdpfmolfaa Mem Held Ct Rc Rs Sl Vm Mg
attribute [local irreducible] wpList wpListIn Calls
theorem rdead_any (w : World) : Calls Try.prog 26 #[] w fun e w' => e = .returned (.agg #[.bool true, .int .i64 0, .int .i64 0, .int .i64 0]) ∧ Below w.heap.size w w' := by
  go_enter Try.func26, Try.ntmps26
  go_wp2_with (first
    | (refine wpList_alloc_blk (w := w) rfl 26 rfl _ zero_rec ?_; intro w1 q1 g1 z1)
    | (refine wpList_build_blk rfl 26 _ rfl #[.bool true, .int .i64 0, .int .i64 0, .int .i64 0] (by kernel_rfl) ?_)
    | (refine wpList_store_blk (w := w1) rfl 26 _ _ rfl w.heap.size 4 rfl 26 _ #[.bool true, .int .i64 0, .int .i64 0, .int .i64 0] rfl q1 info_rec rfl rfl (by kernel_rfl) ?_; intro w2 q2 g2 z2))
  exact bodyPost_ret (results_blk rfl _ _ w.heap.size 4 _ _ rfl q2 _ Try.underlying26 rfl info_rec rfl) rfl ⟨rfl, ((Below.refl _ w).grown g1 (Nat.le_refl _) (by simp)).grown g2 g1.size (fun r e => by cases e; exact Nat.le_refl _)⟩
structure Ord5 (w : World) (lc lr SB lp lx : Nat) : Prop where
  c : w.heap.size < lc
  r : lc < lr
  b : lr < SB
  p : SB ≤ lp
  x : lp < lx
structure QS (w : World) (lc lr SB lp lx : Nat) (PC : Array Value) (v : Value) (out : List R) (so x y : Array Value) (W : World) : Prop where
  own : OwnL kRec 26 W SB v out
  carry : Blk W lc 26 so
  rcd : Blk W lp 26 x
  out : Blk W lx 26 y
  res : Blk W lr 26 #[.bool false, .int .i64 0, .int .i64 0, .int .i64 0]
  prog : Blk W w.heap.size 24 PC
  below : Below w.heap.size w W
  np : ∀ b, v.ownBlock = some b → b < lp
section
variable {w W W' : World} {lc lr SB lp lx : Nat} {PC : Array Value} {v : Value} {out : List R} {so x y : Array Value}
theorem QS.after (h : QS w lc lr SB lp lx PC v out so x y W) (hb : Below W.heap.size W W') : QS w lc lr SB lp lx PC v out so x y W' :=
  ⟨h.own.below hb, h.carry.after hb, h.rcd.after hb, h.out.after hb, h.res.after hb, h.prog.after hb, h.below.trans (hb.mono h.below.size), h.np⟩
theorem QS.own_ne (h : QS w lc lr SB lp lx PC v out so x y W) (ho : Ord5 w lc lr SB lp lx) : some lc ≠ v.ownBlock ∧ some lr ≠ v.ownBlock ∧ some lp ≠ v.ownBlock ∧ some lx ≠ v.ownBlock ∧ some w.heap.size ≠ v.ownBlock := by
  have o1 := ho.c
  have o2 := ho.r
  have o3 := ho.b
  have o4 := ho.p
  have o5 := ho.x
  refine ⟨fun e => ?_, fun e => ?_, fun e => ?_, fun e => ?_, fun e => ?_⟩
  all_goals
    have := (h.own.lt _ e.symm).1
    have := h.np _ e.symm
    omega
theorem QS.setC (h : QS w lc lr SB lp lx PC v out so x y W) (ho : Ord5 w lc lr SB lp lx) {so' : Array Value} (hs : Blk W' lc 26 so') (hg : W.grownBy W' (some lc)) : QS w lc lr SB lp lx PC v out so' x y W' := by
  obtain ⟨e1, _⟩ := h.own_ne ho
  have o1 := ho.c
  have o2 := ho.r
  have o3 := ho.b
  have o4 := ho.p
  have o5 := ho.x
  refine ⟨h.own.kept hg (.inr fun e => e1 e.symm), hs, h.rcd.grown hg ?_, h.out.grown hg ?_, h.res.grown hg ?_, h.prog.grown hg ?_, h.below.grown hg h.below.size (fun r e => by cases e; omega), h.np⟩
  all_goals
    intro e
    injection e with e
    omega
theorem QS.setX (h : QS w lc lr SB lp lx PC v out so x y W) (ho : Ord5 w lc lr SB lp lx) {y' : Array Value} (hs : Blk W' lx 26 y') (hg : W.grownBy W' (some lx)) : QS w lc lr SB lp lx PC v out so x y' W' := by
  obtain ⟨_, _, _, e1, _⟩ := h.own_ne ho
  have o1 := ho.c
  have o2 := ho.r
  have o3 := ho.b
  have o4 := ho.p
  have o5 := ho.x
  refine ⟨h.own.kept hg (.inr fun e => e1 e.symm), h.carry.grown hg ?_, h.rcd.grown hg ?_, hs, h.res.grown hg ?_, h.prog.grown hg ?_, h.below.grown hg h.below.size (fun r e => by cases e; omega), h.np⟩
  all_goals
    intro e
    injection e with e
    omega
theorem QS.sb (h : QS w lc lr SB lp lx PC v out so x y W) (ho : Ord5 w lc lr SB lp lx) : SB ≤ W.heap.size := Nat.le_trans ho.p (Nat.le_of_lt h.rcd.lt)
theorem QS.app (h : QS w lc lr SB lp lx PC v out so x y W) (ho : Ord5 w lc lr SB lp lx) {v' : Value} {out' : List R} (hv : OwnL kRec 26 W' SB v' out') (hg : W.grownBy W' v.ownBlock) :
    Blk W' lc 26 so ∧ Blk W' lr 26 #[.bool false, .int .i64 0, .int .i64 0, .int .i64 0] ∧ Blk W' w.heap.size 24 PC ∧ Below w.heap.size w W' := by
  obtain ⟨e1, e2, _, _, e5⟩ := h.own_ne ho
  refine ⟨h.carry.grown hg e1, h.res.grown hg e2, h.prog.grown hg e5, h.below.grown hg h.below.size (fun r e => ?_)⟩
  have := (h.own.lt _ e).1
  have := ho.c
  have := ho.r
  have := ho.b
  omega
end
set_option maxRecDepth 100000 in
set_option maxHeartbeats 32000000 in
theorem rstep_any (B B2 : Nat) (K : Int) (A1 A2 A3 A : Option Addr) (n1 c1 n2 c2 n3 c3 n c : Nat) (m f fi : List O) (co : R) (rs : List R) (w : World) (h1 : Lst kO w B A1 n1 m) (h2 : Lst kO w B A2 n2 f) (h3 : Lst kO w B A3 n3 fi) (hl : Lst kRec w B2 A n rs) (hB : B ≤ w.heap.size) (hB2 : B2 ≤ w.heap.size) (hn : n ≤ 524288) (hC : checkB K m f fi = true) (hco : co.wf) (l1 : n1 ≤ 1048576) (l2 : n2 ≤ 1048576) (l3 : n3 ≤ 1048576) :
    Calls Try.prog 11 #[.agg #[.int .i64 K, .slice A1 n1 c1, .slice A2 n2 c2, .slice A3 n3 c3], .agg #[.bool co.d, .int .i64 co.k, .int .i64 co.v, .int .i64 co.s], .slice A n c] w fun e w' => ∃ v, e = .returned (.tuple #[v, .agg #[.bool (ends (foldV K m f fi) (bareR co) rs).d, .int .i64 (ends (foldV K m f fi) (bareR co) rs).k, .int .i64 (ends (foldV K m f fi) (bareR co) rs).v, .int .i64 (ends (foldV K m f fi) (bareR co) rs).s]]) ∧ OwnL kRec 26 w' w.heap.size v (outs (foldV K m f fi) (finishV K m f fi) (bareR co) rs) ∧ Below w.heap.size w w' := by
  have HCE := Lib.hid (show checkE K m f fi = 0 by rw [checkE, if_pos hC])
  have HFW := Lib.hid (fun a b ha hb => Sp.foldV_wf (K := K) (m := m) (e := fi) h2.2.1 a b ha hb)
  have HGW := Lib.hid (fun a b ha hb => Sp.finishV_wf (K := K) (m := m) (f := f) h3.2.1 a b ha hb)
  have HL := Lib.hid hl.1
  have HEW := Lib.hid (fun i => ends_wf HFW.out co (rs.take i) hco (fun r hr => hl.2.1 r (List.mem_of_mem_take hr)))
  have HOLN := Lib.hid (fun i => outs_length (F := (foldV K m f fi)) (G := (finishV K m f fi)) co (rs.take i))
  have HOW := Lib.hid (fun i => outs_wf HFW.out HGW.out co (rs.take i) hco (fun r hr => hl.2.1 r (List.mem_of_mem_take hr)))
  have HSN := Lib.hid (fun i (hi : i < n) => show outs (foldV K m f fi) (finishV K m f fi) co (rs.take (i + 1)) = outs (foldV K m f fi) (finishV K m f fi) co (rs.take i) ++ [outR (finishV K m f fi) (ends (foldV K m f fi) co (rs.take i)) (rs.getD i R0)] ∧ ends (foldV K m f fi) co (rs.take (i + 1)) = nextR (foldV K m f fi) (ends (foldV K m f fi) co (rs.take i)) (rs.getD i R0) by
    rw [take_snoc (by rw [hl.1]; exact hi), outs_snoc, ends_snoc]
    exact ⟨rfl, rfl⟩)
  clear hC
  go_enter Try.func11, Try.ntmps11
  go_wp2_with (first
    | (refine wpList_box_blk (w := w) rfl 24 _ rfl #[.int .i64 K, .slice A1 n1 c1, .slice A2 n2 c2, .slice A3 n3 c3] rfl ?_; intro u1 q1 g1 z1)
    | (refine wpList_box_blk (w := u1) rfl 26 _ rfl #[.bool co.d, .int .i64 co.k, .int .i64 co.v, .int .i64 co.s] rfl ?_; intro u2 q2 g2 z2)
    | (refine wpList_alloc_blk (w := u2) rfl 26 rfl _ zero_rec ?_; intro u3 q3 g3 z3; have q1 := (q1.grown g2 (by simp)).grown g3 (by simp))
    | (refine wpList_load_blk (w := u3) rfl 24 _ rfl w.heap.size 4 rfl 24 _ q1 _ Try.underlying24 rfl info_prog rfl ?_))
  have b3 : Below w.heap.size w u3 := (((Below.refl _ w).grown g1 (Nat.le_refl _) (by simp)).grown g2 g1.size (by simp)).grown g3 (Nat.le_trans g1.size g2.size) (by simp)
  have lu1 : w.heap.size < u1.heap.size := (Nat.lt_of_lt_of_le (Nat.lt_succ_self _) (by have := z1.out; omega))
  have lu2 : u1.heap.size < u2.heap.size := q2.lt
  have lu3 : u2.heap.size < u3.heap.size := q3.lt
  have q2 := q2.grown g3 (by simp)
  clear g1 g2 g3 z1 z2 z3
  refine (rcheck_any B K A1 A2 A3 n1 c1 n2 c2 n3 c3 m f fi u3 (h1.below (b3.mono hB)) (h2.below (b3.mono hB)) (h3.below (b3.mono hB)) (Nat.le_trans hB b3.size) (by omega) (by omega) (by omega)).mono ?_
  rintro e u4 ⟨rfl, b4⟩
  rw [HCE.out]
  have q1 := q1.after b4
  have q2 := q2.after b4
  have q3 := q3.after b4
  have lu4 := b4.size
  have b4 := b3.trans (b4.mono b3.size)
  clear b3
  go_wp2_with fail
  go_loopw [8, 9] (fun u iv wr => ∃ i : Nat, i ≤ n ∧ iv = .int .i64 i ∧ OwnL kRec 26 wr u3.heap.size u (outs (foldV K m f fi) (finishV K m f fi) co (rs.take i)) ∧ Blk wr u1.heap.size 26 #[.bool (ends (foldV K m f fi) co (rs.take i)).d, .int .i64 (ends (foldV K m f fi) co (rs.take i)).k, .int .i64 (ends (foldV K m f fi) co (rs.take i)).v, .int .i64 (ends (foldV K m f fi) co (rs.take i)).s] ∧ Blk wr u2.heap.size 26 #[.bool false, .int .i64 0, .int .i64 0, .int .i64 0] ∧ Blk wr w.heap.size 24 #[.int .i64 K, .slice A1 n1 c1, .slice A2 n2 c2, .slice A3 n3 c3] ∧ Below w.heap.size w wr ∧ u3.heap.size ≤ wr.heap.size) (fun _ iv _ => n - (intOf iv).toNat)
  case atStart => exact ⟨0, by omega, rfl, OwnL.nil _ _ _ _, q2, q3, q1, b4, lu4⟩
  case round =>
    clear q1 q2 q3 b4
    obtain ⟨i, hi, rfl, ow, qc, qr, qp, bw, hrw⟩ := hrel
    by_cases hlt : i < n
    · obtain ⟨b, off, rfl, hb1, hx⟩ := (hl.below (bw.mono hB2)).at_ hlt
      have hx : wr.rangeAt b (off + i * 4) (rs.getD i R0).cells := hx
      have hxw : (rs.getD i R0).wf := hl.wf_at hlt
      obtain ⟨Ao, m0, co0, rfl, HOL, hmc, hcm⟩ := OwnL.form2 ow
      have hm0 : m0 ≤ 524288 := by
        have e1 := HOL.out
        have e2 := HOLN.out i
        rw [e1, List.length_take] at e2
        omega
      have hsw := HEW.out i
      have HNO := Lib.hid (HSN.out i hlt).1
      have HNE := Lib.hid (HSN.out i hlt).2
      generalize ends (foldV K m f fi) co (rs.take i) = so at qc hsw HNO HNE
      generalize outs (foldV K m f fi) (finishV K m f fi) co (rs.take i) = out at ow HOL HNO
      generalize rs.getD i R0 = x at hx hxw HNO HNE
      obtain ⟨sd, sk, sv, ss⟩ := so
      obtain ⟨xd, xk, xv, xs⟩ := x
      obtain ⟨wsk, wsv, wss⟩ : (Lit.int .i64 sk).wf = true ∧ (Lit.int .i64 sv).wf = true ∧ (Lit.int .i64 ss).wf = true := hsw
      obtain ⟨wxk, wxv, wxs⟩ : (Lit.int .i64 xk).wf = true ∧ (Lit.int .i64 xv).wf = true ∧ (Lit.int .i64 xs).wf = true := hxw
      have hx : wr.rangeAt b (off + i * 4) [.bool xd, .int .i64 xk, .int .i64 xv, .int .i64 xs] := hx
      have qc : Blk wr u1.heap.size 26 #[.bool sd, .int .i64 sk, .int .i64 sv, .int .i64 ss] := qc
      have hlt' : (i : Int) < (n : Int) := by omega
      have hi0 : (0 : Int) ≤ (i : Int) := by omega
      go_wp2_with (first
        | (refine wpList_run (w := wr) rfl (v := .pointer (some ⟨b, off + i * 4, none⟩)) (Held.y_addr (S := fun _ => True) rfl rfl rfl (run_addr_of (P := Try.prog) 27 26 b off n c i 4 .i64 Try.underlying27 info_rec hlt) _ trivial) ?_)
        | (refine wpList_run (w := wr) rfl (v := .agg #[.bool xd, .int .i64 xk, .int .i64 xv, .int .i64 xs]) (y_load_range (S := fun W => W = wr) (n := 4) (cs := [.bool xd, .int .i64 xk, .int .i64 xv, .int .i64 xs]) rfl rfl Try.underlying26 rfl info_rec rfl (fun W hW => by rw [hW]; exact hx) _ rfl) ?_)
        | (refine wpList_alloc_blk (w := wr) rfl 26 rfl _ zero_rec ?_; intro v2 q2 g2 z2)
        | (refine wpList_store_blk (w := v2) rfl 26 _ _ rfl wr.heap.size 4 rfl 26 _ #[.bool xd, .int .i64 xk, .int .i64 xv, .int .i64 xs] rfl q2 info_rec rfl rfl (by kernel_rfl) ?_; intro v8 q8 g3 z3))
      have b8 : Below wr.heap.size wr v8 := ((Below.refl _ wr).grown g2 (Nat.le_refl _) (by simp)).grown g3 g2.size (fun r e => by cases e; exact Nat.le_refl _)
      clear g2 g3 z2 z3 q2 hx
      refine (rdead_any _).mono ?_
      rintro e v9 ⟨rfl, b9⟩
      have q9 := q8.after b9
      have b9 := b8.trans (b9.mono b8.size)
      have lv9 : wr.heap.size < v9.heap.size := q9.lt
      have ho : Ord5 w u1.heap.size u2.heap.size u3.heap.size wr.heap.size v9.heap.size := ⟨lu1, lu2, lu3, hrw, lv9⟩
      have HQ := Lib.hid (fun (wz : World) (b10 : Below v9.heap.size v9 wz) (qz : Blk wz v9.heap.size 26 #[.bool true, .int .i64 0, .int .i64 0, .int .i64 0]) => (show QS w u1.heap.size u2.heap.size u3.heap.size wr.heap.size v9.heap.size #[.int .i64 K, .slice A1 n1 c1, .slice A2 n2 c2, .slice A3 n3 c3] (.slice Ao m0 co0) out #[.bool sd, .int .i64 sk, .int .i64 sv, .int .i64 ss] #[.bool xd, .int .i64 xk, .int .i64 xv, .int .i64 xs] #[.bool true, .int .i64 0, .int .i64 0, .int .i64 0] wz from
        have bz := b9.trans (b10.mono b9.size)
        ⟨ow.below bz, qc.after bz, q9.after b10, qz, qr.after bz, qp.after bz, bw.trans (bz.mono bw.size), fun b hb => (ow.lt _ hb).2⟩))
      clear q8 q9 b8 b9 ow qc qr qp bw hmc hcm
      cases xd
      · cases sd
        · by_cases hne : xk = sk
          · have hne2 := hne.symm
            clear hne
            subst hne2
            have HY := Lib.hid (HNO.out.trans (show out ++ [outR (finishV K m f fi) ⟨false, sk, sv, ss⟩ ⟨false, sk, xv, xs⟩] = out ++ [RD] from congrArg (fun y => out ++ [y]) (by simp [outR, goesB])))
            have HE := Lib.hid (HNE.out.trans (show nextR (foldV K m f fi) ⟨false, sk, sv, ss⟩ ⟨false, sk, xv, xs⟩ = (⟨false, sk, foldV K m f fi sv xv, 0⟩ : R) from (by simp [nextR, goesB, joinR])))
            have HYW := Lib.hid (show (RD : R).wf from wf_dead)
            clear HNO HNE
            go_wp2_with (first
              | (refine wpList_alloc_blk (w := v9) rfl 26 rfl _ zero_rec ?_; intro v10 q10 g10 z10)
              | (refine wpList_store_blk (w := v10) rfl 26 _ _ rfl v9.heap.size 4 rfl 26 _ #[.bool true, .int .i64 0, .int .i64 0, .int .i64 0] rfl q10 info_rec rfl rfl (by kernel_rfl) ?_; intro wz qz gz zz; have H := HQ.out wz (((Below.refl _ v9).grown g10 (Nat.le_refl _) (by simp)).grown gz g10.size (fun r e => by cases e; exact Nat.le_refl _)) qz; have cr0 := H.rcd.cell (i := 0) rfl; have cr1 := H.rcd.cell (i := 1) rfl; have cc0 := H.carry.cell (i := 0) rfl; have cc1 := H.carry.cell (i := 1) rfl; clear q10 qz g10 gz z10 zz)
              | (refine wpList_run (w := wz) rfl (v := .pointer (some ⟨wr.heap.size, 0, none⟩)) (Held.y_field (S := fun _ => True) (k := 0) (s := 0) rfl rfl Try.underlying26 rfl (by kernel_rfl) rfl _ trivial) ?_)
              | (refine wpList_run (w := wz) rfl (v := .pointer (some ⟨u1.heap.size, 0, none⟩)) (Held.y_field (S := fun _ => True) (k := 0) (s := 0) rfl rfl Try.underlying26 rfl (by kernel_rfl) rfl _ trivial) ?_)
              | (refine wpList_run (w := wz) rfl (v := .pointer (some ⟨wr.heap.size, 1, none⟩)) (Held.y_field (S := fun _ => True) (k := 1) (s := 0) rfl rfl Try.underlying26 rfl (by kernel_rfl) rfl _ trivial) ?_)
              | (refine wpList_run (w := wz) rfl (v := .pointer (some ⟨u1.heap.size, 1, none⟩)) (Held.y_field (S := fun _ => True) (k := 1) (s := 0) rfl rfl Try.underlying26 rfl (by kernel_rfl) rfl _ trivial) ?_))
            refine Held.wp_region_bar (s := 9) (T := fun X => Blk X w.heap.size 24 #[.int .i64 K, .slice A1 n1 c1, .slice A2 n2 c2, .slice A3 n3 c3] ∧ Blk X u1.heap.size 26 #[.bool false, .int .i64 sk, .int .i64 sv, .int .i64 ss] ∧ Blk X wr.heap.size 26 #[.bool false, .int .i64 sk, .int .i64 xv, .int .i64 xs]) (by kernel_rfl) ?_
            change wpAnyB _ _ _ _ _ _ _ _ _ wz.drew
            have H := H.after (Below.refl wz.heap.size wz).drew
            have T0 : Blk wz.drew w.heap.size 24 #[.int .i64 K, .slice A1 n1 c1, .slice A2 n2 c2, .slice A3 n3 c3] ∧ Blk wz.drew u1.heap.size 26 #[.bool false, .int .i64 sk, .int .i64 sv, .int .i64 ss] ∧ Blk wz.drew wr.heap.size 26 #[.bool false, .int .i64 sk, .int .i64 xv, .int .i64 xs] := ⟨H.prog, H.carry, H.rcd⟩
            refine Held.takeB (v := .pointer (some ⟨u1.heap.size, 1, none⟩)) 0 (some 42) [9] rfl rfl (by kernel_rfl) (by kernel_rfl) (by kernel_rfl) (by kernel_rfl) (fun _ _ _ h => h) rfl (Held.y_field (k := 1) (s := 0) rfl rfl Try.underlying26 rfl (by kernel_rfl) rfl) T0 ?_
            simp only [Act.put, Z1, Z2, Z3]
            refine Held.takeB (v := .int .i64 sk) 1 (some 43) [9] rfl rfl (by kernel_rfl) (by kernel_rfl) (by kernel_rfl) (by kernel_rfl) (fun _ _ _ h => h) rfl (Held.y_load rfl rfl (by kernel_rfl) (fun X hX => hX.2.1.cell (i := 1) rfl)) T0 ?_
            simp only [Act.put, Z1, Z2, Z3]
            refine Held.takeB (v := .agg #[.int .i64 K, .slice A1 n1 c1, .slice A2 n2 c2, .slice A3 n3 c3]) 2 (some 44) [9] rfl rfl (by kernel_rfl) (by kernel_rfl) (by kernel_rfl) (by kernel_rfl) (fun _ _ _ h => h) rfl (Held.y_load_blk (n := 4) rfl rfl Try.underlying24 rfl info_prog rfl (fun X hX => hX.1)) T0 ?_
            simp only [Act.put, Z1, Z2, Z3]
            refine Held.takeB (v := .pointer (some ⟨u1.heap.size, 2, none⟩)) 3 (some 45) [9] rfl rfl (by kernel_rfl) (by kernel_rfl) (by kernel_rfl) (by kernel_rfl) (fun _ _ _ h => h) rfl (Held.y_field (k := 2) (s := 0) rfl rfl Try.underlying26 rfl (by kernel_rfl) rfl) T0 ?_
            simp only [Act.put, Z1, Z2, Z3]
            refine Held.takeB (v := .int .i64 sv) 4 (some 46) [9] rfl rfl (by kernel_rfl) (by kernel_rfl) (by kernel_rfl) (by kernel_rfl) (fun _ _ _ h => h) rfl (Held.y_load rfl rfl (by kernel_rfl) (fun X hX => hX.2.1.cell (i := 2) rfl)) T0 ?_
            simp only [Act.put, Z1, Z2, Z3]
            refine Held.takeB (v := .pointer (some ⟨wr.heap.size, 2, none⟩)) 5 (some 47) [9] rfl rfl (by kernel_rfl) (by kernel_rfl) (by kernel_rfl) (by kernel_rfl) (fun _ _ _ h => h) rfl (Held.y_field (k := 2) (s := 0) rfl rfl Try.underlying26 rfl (by kernel_rfl) rfl) T0 ?_
            simp only [Act.put, Z1, Z2, Z3]
            refine Held.takeB (v := .int .i64 xv) 6 (some 48) [9] rfl rfl (by kernel_rfl) (by kernel_rfl) (by kernel_rfl) (by kernel_rfl) (fun _ _ _ h => h) rfl (Held.y_load rfl rfl (by kernel_rfl) (fun X hX => hX.2.2.cell (i := 2) rfl)) T0 ?_
            simp only [Act.put, Z1, Z2, Z3]
            refine Held.oneB 7 (by kernel_rfl) ?_
            refine Held.op_call 7 (some 49) 27 #[.agg #[.int .i64 K, .slice A1 n1 c1, .slice A2 n2 c2, .slice A3 n3 c3], .int .i64 sv, .int .i64 xv] rfl rfl rfl rfl (enters_of Try.func27 (by kernel_rfl) rfl) (by simp [Act.eval])
              (rfold_any B K A1 A2 A3 n1 c1 n2 c2 n3 c3 m f fi sv xv _ wsv wxv (h1.below (H.below.mono hB)) (h2.below (H.below.mono hB)) (h3.below (H.below.mono hB)) (Nat.le_trans hB H.below.size) l1 l2 l3) ?_
            rintro e w1 ⟨rfl, b1⟩
            have H := H.after b1
            refine ⟨_, rfl, fun _ => ⟨H.prog, H.carry, H.rcd⟩, ?_⟩
            simp only [Act.put, Z1, Z2, Z3]
            clear b1 T0
            refine Held.takeB (v := .agg #[.bool false, .int .i64 sk, .int .i64 (foldV K m f fi sv xv), .int .i64 0]) 8 (some 50) [9] rfl rfl (by kernel_rfl) (by kernel_rfl) (by kernel_rfl) (by kernel_rfl) (fun _ _ _ h => h) rfl (Held.y_build rfl (by kernel_rfl)) ⟨H.prog, H.carry, H.rcd⟩ ?_
            simp only [Act.put, Z1, Z2, Z3]
            refine Held.oneB 9 (by kernel_rfl) ?_
            refine Held.op_store_blk 9 none 26 u1.heap.size 4 26 _ #[.bool false, .int .i64 sk, .int .i64 (foldV K m f fi sv xv), .int .i64 0] rfl rfl rfl rfl rfl rfl H.carry info_rec rfl rfl (by kernel_rfl) ?_
            intro w2 qs g2
            have H := H.setC ho qs g2
            refine ⟨(fun h => by cases h.symm.trans (show _ = true by kernel_rfl)), ?_⟩
            simp only [Act.put]
            refine doneB (by kernel_rfl) ?_ _
            clear qs g2
            have cX := H.out
            go_wp2_with (first
              | (refine wpList_load_blk (w := w2) rfl 26 _ rfl v9.heap.size 4 rfl 26 _ cX _ Try.underlying26 rfl info_rec rfl ?_)
              | (refine wpList_build_lst (k := kRec) (w := w2) rfl 27 26 1 _ rfl Try.underlying27 _ 32 info_kRec rfl [RD] rfl (by kernel_rfl) (by omega) (by decide) ?_; intro wq qq gq zq; have H := H.after ((Below.refl w2.heap.size w2).grown gq (Nat.le_refl _) (by simp)); have lq := lst_whole (k := kRec) (xs := [RD]) (n := 1) qq rfl (fun y hy => by rw [List.mem_singleton.1 hy]; exact HYW.out); clear qq gq zq)
              | (refine wpList_append_all (k := kRec) (w := wq) rfl _ _ 27 26 rfl Try.underlying27 _ 32 info_kRec rfl u3.heap.size wq.heap.size 1 1 (some ⟨w2.heap.size, 0, none⟩) (.slice Ao m0 co0) out [RD] rfl rfl H.own lq (by rw [HOL.out]; omega) (by omega) (H.sb ho) ?_; intro v5 w7 o5 g5 n5; have a5 := H.app ho o5 g5))
            go_roundw
            case rel => exact ⟨i + 1, by omega, by go_num, by rw [HY.out]; exact o5, by rw [HE.out]; exact a5.1, a5.2.1, a5.2.2.1, a5.2.2.2, Nat.le_trans (H.sb ho) g5.size⟩
            case measure => simp [intOf]; omega
          · have HY := Lib.hid (HNO.out.trans (show out ++ [outR (finishV K m f fi) ⟨false, sk, sv, ss⟩ ⟨false, xk, xv, xs⟩] = out ++ [⟨false, sk, finishV K m f fi sk sv, 0⟩] from congrArg (fun y => out ++ [y]) (by simp [outR, goesB, finR, hne])))
            have HE := Lib.hid (HNE.out.trans (show nextR (foldV K m f fi) ⟨false, sk, sv, ss⟩ ⟨false, xk, xv, xs⟩ = (⟨false, xk, xv, 0⟩ : R) from (by simp [nextR, goesB, bareR, hne])))
            have HYW := Lib.hid (show (⟨false, sk, finishV K m f fi sk sv, 0⟩ : R).wf from ⟨wsk, HGW.out _ _ wsk wsv, rfl⟩)
            clear HNO HNE
            have hd1 : decide (xk = sk) = false := by simp [hne]
            have hd2 : (xk == sk) = false := by simp [hne]
            go_wp2_with (first
              | (refine wpList_alloc_blk (w := v9) rfl 26 rfl _ zero_rec ?_; intro v10 q10 g10 z10)
              | (refine wpList_store_blk (w := v10) rfl 26 _ _ rfl v9.heap.size 4 rfl 26 _ #[.bool true, .int .i64 0, .int .i64 0, .int .i64 0] rfl q10 info_rec rfl rfl (by kernel_rfl) ?_; intro wz qz gz zz; have H := HQ.out wz (((Below.refl _ v9).grown g10 (Nat.le_refl _) (by simp)).grown gz g10.size (fun r e => by cases e; exact Nat.le_refl _)) qz; have cr0 := H.rcd.cell (i := 0) rfl; have cr1 := H.rcd.cell (i := 1) rfl; have cc0 := H.carry.cell (i := 0) rfl; have cc1 := H.carry.cell (i := 1) rfl; clear q10 qz g10 gz z10 zz)
              | (refine wpList_run (w := wz) rfl (v := .pointer (some ⟨wr.heap.size, 0, none⟩)) (Held.y_field (S := fun _ => True) (k := 0) (s := 0) rfl rfl Try.underlying26 rfl (by kernel_rfl) rfl _ trivial) ?_)
              | (refine wpList_run (w := wz) rfl (v := .pointer (some ⟨u1.heap.size, 0, none⟩)) (Held.y_field (S := fun _ => True) (k := 0) (s := 0) rfl rfl Try.underlying26 rfl (by kernel_rfl) rfl _ trivial) ?_)
              | (refine wpList_run (w := wz) rfl (v := .pointer (some ⟨wr.heap.size, 1, none⟩)) (Held.y_field (S := fun _ => True) (k := 1) (s := 0) rfl rfl Try.underlying26 rfl (by kernel_rfl) rfl _ trivial) ?_)
              | (refine wpList_run (w := wz) rfl (v := .pointer (some ⟨u1.heap.size, 1, none⟩)) (Held.y_field (S := fun _ => True) (k := 1) (s := 0) rfl rfl Try.underlying26 rfl (by kernel_rfl) rfl _ trivial) ?_))
            refine Held.wp_region_bar (s := 9) (T := fun X => Blk X w.heap.size 24 #[.int .i64 K, .slice A1 n1 c1, .slice A2 n2 c2, .slice A3 n3 c3] ∧ Blk X u1.heap.size 26 #[.bool false, .int .i64 sk, .int .i64 sv, .int .i64 ss] ∧ Blk X wr.heap.size 26 #[.bool false, .int .i64 xk, .int .i64 xv, .int .i64 xs]) (by kernel_rfl) ?_
            change wpAnyB _ _ _ _ _ _ _ _ _ wz.drew
            have H := H.after (Below.refl wz.heap.size wz).drew
            have T0 : Blk wz.drew w.heap.size 24 #[.int .i64 K, .slice A1 n1 c1, .slice A2 n2 c2, .slice A3 n3 c3] ∧ Blk wz.drew u1.heap.size 26 #[.bool false, .int .i64 sk, .int .i64 sv, .int .i64 ss] ∧ Blk wz.drew wr.heap.size 26 #[.bool false, .int .i64 xk, .int .i64 xv, .int .i64 xs] := ⟨H.prog, H.carry, H.rcd⟩
            refine Held.takeB (v := .pointer (some ⟨u1.heap.size, 1, none⟩)) 0 (some 54) [9] rfl rfl (by kernel_rfl) (by kernel_rfl) (by kernel_rfl) (by kernel_rfl) (fun _ _ _ h => h) rfl (Held.y_field (k := 1) (s := 0) rfl rfl Try.underlying26 rfl (by kernel_rfl) rfl) T0 ?_
            simp only [Act.put, Z1, Z2, Z3]
            refine Held.takeB (v := .int .i64 sk) 1 (some 55) [9] rfl rfl (by kernel_rfl) (by kernel_rfl) (by kernel_rfl) (by kernel_rfl) (fun _ _ _ h => h) rfl (Held.y_load rfl rfl (by kernel_rfl) (fun X hX => hX.2.1.cell (i := 1) rfl)) T0 ?_
            simp only [Act.put, Z1, Z2, Z3]
            refine Held.takeB (v := .agg #[.int .i64 K, .slice A1 n1 c1, .slice A2 n2 c2, .slice A3 n3 c3]) 2 (some 56) [9] rfl rfl (by kernel_rfl) (by kernel_rfl) (by kernel_rfl) (by kernel_rfl) (fun _ _ _ h => h) rfl (Held.y_load_blk (n := 4) rfl rfl Try.underlying24 rfl info_prog rfl (fun X hX => hX.1)) T0 ?_
            simp only [Act.put, Z1, Z2, Z3]
            refine Held.takeB (v := .pointer (some ⟨u1.heap.size, 1, none⟩)) 3 (some 57) [9] rfl rfl (by kernel_rfl) (by kernel_rfl) (by kernel_rfl) (by kernel_rfl) (fun _ _ _ h => h) rfl (Held.y_field (k := 1) (s := 0) rfl rfl Try.underlying26 rfl (by kernel_rfl) rfl) T0 ?_
            simp only [Act.put, Z1, Z2, Z3]
            refine Held.takeB (v := .int .i64 sk) 4 (some 58) [9] rfl rfl (by kernel_rfl) (by kernel_rfl) (by kernel_rfl) (by kernel_rfl) (fun _ _ _ h => h) rfl (Held.y_load rfl rfl (by kernel_rfl) (fun X hX => hX.2.1.cell (i := 1) rfl)) T0 ?_
            simp only [Act.put, Z1, Z2, Z3]
            refine Held.takeB (v := .pointer (some ⟨u1.heap.size, 2, none⟩)) 5 (some 59) [9] rfl rfl (by kernel_rfl) (by kernel_rfl) (by kernel_rfl) (by kernel_rfl) (fun _ _ _ h => h) rfl (Held.y_field (k := 2) (s := 0) rfl rfl Try.underlying26 rfl (by kernel_rfl) rfl) T0 ?_
            simp only [Act.put, Z1, Z2, Z3]
            refine Held.takeB (v := .int .i64 sv) 6 (some 60) [9] rfl rfl (by kernel_rfl) (by kernel_rfl) (by kernel_rfl) (by kernel_rfl) (fun _ _ _ h => h) rfl (Held.y_load rfl rfl (by kernel_rfl) (fun X hX => hX.2.1.cell (i := 2) rfl)) T0 ?_
            simp only [Act.put, Z1, Z2, Z3]
            refine Held.oneB 7 (by kernel_rfl) ?_
            refine Held.op_call 7 (some 61) 28 #[.agg #[.int .i64 K, .slice A1 n1 c1, .slice A2 n2 c2, .slice A3 n3 c3], .int .i64 sk, .int .i64 sv] rfl rfl rfl rfl (enters_of Try.func28 (by kernel_rfl) rfl) (by simp [Act.eval])
              (rfinish_any B K A1 A2 A3 n1 c1 n2 c2 n3 c3 m f fi sk sv _ wsk wsv (h1.below (H.below.mono hB)) (h2.below (H.below.mono hB)) (h3.below (H.below.mono hB)) (Nat.le_trans hB H.below.size) l1 l2 l3) ?_
            rintro e w1 ⟨rfl, b1⟩
            have H := H.after b1
            refine ⟨_, rfl, fun _ => ⟨H.prog, H.carry, H.rcd⟩, ?_⟩
            simp only [Act.put, Z1, Z2, Z3]
            clear b1 T0
            refine Held.takeB (v := .agg #[.bool false, .int .i64 sk, .int .i64 (finishV K m f fi sk sv), .int .i64 0]) 8 (some 62) [9] rfl rfl (by kernel_rfl) (by kernel_rfl) (by kernel_rfl) (by kernel_rfl) (fun _ _ _ h => h) rfl (Held.y_build rfl (by kernel_rfl)) ⟨H.prog, H.carry, H.rcd⟩ ?_
            simp only [Act.put, Z1, Z2, Z3]
            refine Held.oneB 9 (by kernel_rfl) ?_
            refine Held.op_store_blk 9 none 26 v9.heap.size 4 26 _ #[.bool false, .int .i64 sk, .int .i64 (finishV K m f fi sk sv), .int .i64 0] rfl rfl rfl rfl rfl rfl H.out info_rec rfl rfl (by kernel_rfl) ?_
            intro w2 qs g2
            have H := H.setX ho qs g2
            refine ⟨(fun h => by cases h.symm.trans (show _ = true by kernel_rfl)), ?_⟩
            simp only [Act.put]
            refine doneB (by kernel_rfl) ?_ _
            clear qs g2
            generalize w2 = wz at H ⊢
            have cr0 := H.rcd.cell (i := 0) rfl
            have cr1 := H.rcd.cell (i := 1) rfl
            have cr2 := H.rcd.cell (i := 2) rfl
            have hqc := H.carry
            go_wp2_with (first
              | (refine wpList_run (w := wz) rfl (v := .pointer (some ⟨wr.heap.size, 0, none⟩)) (Held.y_field (S := fun _ => True) (k := 0) (s := 0) rfl rfl Try.underlying26 rfl (by kernel_rfl) rfl _ trivial) ?_)
              | (refine wpList_run (w := wz) rfl (v := .pointer (some ⟨wr.heap.size, 1, none⟩)) (Held.y_field (S := fun _ => True) (k := 1) (s := 0) rfl rfl Try.underlying26 rfl (by kernel_rfl) rfl _ trivial) ?_)
              | (refine wpList_run (w := wz) rfl (v := .pointer (some ⟨wr.heap.size, 2, none⟩)) (Held.y_field (S := fun _ => True) (k := 2) (s := 0) rfl rfl Try.underlying26 rfl (by kernel_rfl) rfl _ trivial) ?_)
              | (refine wpList_build_blk rfl 26 _ rfl #[.bool false, .int .i64 xk, .int .i64 xv, .int .i64 0] (by kernel_rfl) ?_)
              | (refine wpList_store_blk (w := wz) rfl 26 _ _ rfl u1.heap.size 4 rfl 26 _ #[.bool false, .int .i64 xk, .int .i64 xv, .int .i64 0] rfl hqc info_rec rfl rfl (by kernel_rfl) ?_; intro w6 q6 g6 z6; have H := H.setC ho q6 g6; have cX := H.out; clear g6 z6 hqc q6)
              | (refine wpList_load_blk (w := w6) rfl 26 _ rfl v9.heap.size 4 rfl 26 _ cX _ Try.underlying26 rfl info_rec rfl ?_)
              | (refine wpList_build_lst (k := kRec) (w := w6) rfl 27 26 1 _ rfl Try.underlying27 _ 32 info_kRec rfl [⟨false, sk, finishV K m f fi sk sv, 0⟩] rfl (by kernel_rfl) (by omega) (by decide) ?_; intro wq qq gq zq; have H := H.after ((Below.refl w6.heap.size w6).grown gq (Nat.le_refl _) (by simp)); have lq := lst_whole (k := kRec) (xs := [⟨false, sk, finishV K m f fi sk sv, 0⟩]) (n := 1) qq rfl (fun y hy => by rw [List.mem_singleton.1 hy]; exact HYW.out); clear qq gq zq)
              | (refine wpList_append_all (k := kRec) (w := wq) rfl _ _ 27 26 rfl Try.underlying27 _ 32 info_kRec rfl u3.heap.size wq.heap.size 1 1 (some ⟨w6.heap.size, 0, none⟩) (.slice Ao m0 co0) out [⟨false, sk, finishV K m f fi sk sv, 0⟩] rfl rfl H.own lq (by rw [HOL.out]; omega) (by omega) (H.sb ho) ?_; intro v5 w7 o5 g5 n5; have a5 := H.app ho o5 g5))
            go_roundw
            case rel => exact ⟨i + 1, by omega, by go_num, by rw [HY.out]; exact o5, by rw [HE.out]; exact a5.1, a5.2.1, a5.2.2.1, a5.2.2.2, Nat.le_trans (H.sb ho) g5.size⟩
            case measure => simp [intOf]; omega
        · have HY := Lib.hid (HNO.out.trans (show out ++ [outR (finishV K m f fi) ⟨true, sk, sv, ss⟩ ⟨false, xk, xv, xs⟩] = out ++ [RD] from congrArg (fun y => out ++ [y]) rfl))
          have HE := Lib.hid (HNE.out.trans (show nextR (foldV K m f fi) ⟨true, sk, sv, ss⟩ ⟨false, xk, xv, xs⟩ = (⟨false, xk, xv, 0⟩ : R) from rfl))
          have HYW := Lib.hid (show (RD : R).wf from wf_dead)
          clear HNO HNE
          go_wp2_with (first
            | (refine wpList_alloc_blk (w := v9) rfl 26 rfl _ zero_rec ?_; intro v10 q10 g10 z10)
            | (refine wpList_store_blk (w := v10) rfl 26 _ _ rfl v9.heap.size 4 rfl 26 _ #[.bool true, .int .i64 0, .int .i64 0, .int .i64 0] rfl q10 info_rec rfl rfl (by kernel_rfl) ?_; intro wz qz gz zz; have H := HQ.out wz (((Below.refl _ v9).grown g10 (Nat.le_refl _) (by simp)).grown gz g10.size (fun r e => by cases e; exact Nat.le_refl _)) qz; have cr0 := H.rcd.cell (i := 0) rfl; have cr1 := H.rcd.cell (i := 1) rfl; have cr2 := H.rcd.cell (i := 2) rfl; have hqc := H.carry; have cc0 := H.carry.cell (i := 0) rfl; have cc1 := H.carry.cell (i := 1) rfl; clear q10 qz g10 gz z10 zz)
            | (refine wpList_run (w := wz) rfl (v := .pointer (some ⟨u1.heap.size, 0, none⟩)) (Held.y_field (S := fun _ => True) (k := 0) (s := 0) rfl rfl Try.underlying26 rfl (by kernel_rfl) rfl _ trivial) ?_)
            | (refine wpList_run (w := wz) rfl (v := .pointer (some ⟨wr.heap.size, 0, none⟩)) (Held.y_field (S := fun _ => True) (k := 0) (s := 0) rfl rfl Try.underlying26 rfl (by kernel_rfl) rfl _ trivial) ?_)
            | (refine wpList_run (w := wz) rfl (v := .pointer (some ⟨wr.heap.size, 1, none⟩)) (Held.y_field (S := fun _ => True) (k := 1) (s := 0) rfl rfl Try.underlying26 rfl (by kernel_rfl) rfl _ trivial) ?_)
            | (refine wpList_run (w := wz) rfl (v := .pointer (some ⟨wr.heap.size, 2, none⟩)) (Held.y_field (S := fun _ => True) (k := 2) (s := 0) rfl rfl Try.underlying26 rfl (by kernel_rfl) rfl _ trivial) ?_)
            | (refine wpList_build_blk rfl 26 _ rfl #[.bool false, .int .i64 xk, .int .i64 xv, .int .i64 0] (by kernel_rfl) ?_)
            | (refine wpList_store_blk (w := wz) rfl 26 _ _ rfl u1.heap.size 4 rfl 26 _ #[.bool false, .int .i64 xk, .int .i64 xv, .int .i64 0] rfl hqc info_rec rfl rfl (by kernel_rfl) ?_; intro w6 q6 g6 z6; have H := H.setC ho q6 g6; have cX := H.out; clear g6 z6 hqc q6)
            | (refine wpList_load_blk (w := w6) rfl 26 _ rfl v9.heap.size 4 rfl 26 _ cX _ Try.underlying26 rfl info_rec rfl ?_)
            | (refine wpList_build_lst (k := kRec) (w := w6) rfl 27 26 1 _ rfl Try.underlying27 _ 32 info_kRec rfl [RD] rfl (by kernel_rfl) (by omega) (by decide) ?_; intro wq qq gq zq; have H := H.after ((Below.refl w6.heap.size w6).grown gq (Nat.le_refl _) (by simp)); have lq := lst_whole (k := kRec) (xs := [RD]) (n := 1) qq rfl (fun y hy => by rw [List.mem_singleton.1 hy]; exact HYW.out); clear qq gq zq)
            | (refine wpList_append_all (k := kRec) (w := wq) rfl _ _ 27 26 rfl Try.underlying27 _ 32 info_kRec rfl u3.heap.size wq.heap.size 1 1 (some ⟨w6.heap.size, 0, none⟩) (.slice Ao m0 co0) out [RD] rfl rfl H.own lq (by rw [HOL.out]; omega) (by omega) (H.sb ho) ?_; intro v5 w7 o5 g5 n5; have a5 := H.app ho o5 g5))
          go_roundw
          case rel => exact ⟨i + 1, by omega, by go_num, by rw [HY.out]; exact o5, by rw [HE.out]; exact a5.1, a5.2.1, a5.2.2.1, a5.2.2.2, Nat.le_trans (H.sb ho) g5.size⟩
          case measure => simp [intOf]; omega
      · cases sd
        · have HY := Lib.hid (HNO.out.trans (show out ++ [outR (finishV K m f fi) ⟨false, sk, sv, ss⟩ ⟨true, xk, xv, xs⟩] = out ++ [⟨false, sk, finishV K m f fi sk sv, 0⟩] from congrArg (fun y => out ++ [y]) rfl))
          have HE := Lib.hid (HNE.out.trans (show nextR (foldV K m f fi) ⟨false, sk, sv, ss⟩ ⟨true, xk, xv, xs⟩ = (RD : R) from rfl))
          have HYW := Lib.hid (show (⟨false, sk, finishV K m f fi sk sv, 0⟩ : R).wf from ⟨wsk, HGW.out _ _ wsk wsv, rfl⟩)
          clear HNO HNE
          go_wp2_with (first
            | (refine wpList_alloc_blk (w := v9) rfl 26 rfl _ zero_rec ?_; intro v10 q10 g10 z10)
            | (refine wpList_store_blk (w := v10) rfl 26 _ _ rfl v9.heap.size 4 rfl 26 _ #[.bool true, .int .i64 0, .int .i64 0, .int .i64 0] rfl q10 info_rec rfl rfl (by kernel_rfl) ?_; intro wz qz gz zz; have H := HQ.out wz (((Below.refl _ v9).grown g10 (Nat.le_refl _) (by simp)).grown gz g10.size (fun r e => by cases e; exact Nat.le_refl _)) qz; have cr0 := H.rcd.cell (i := 0) rfl; have cr1 := H.rcd.cell (i := 1) rfl; have cc0 := H.carry.cell (i := 0) rfl; have cc1 := H.carry.cell (i := 1) rfl; clear q10 qz g10 gz z10 zz)
            | (refine wpList_run (w := wz) rfl (v := .pointer (some ⟨wr.heap.size, 0, none⟩)) (Held.y_field (S := fun _ => True) (k := 0) (s := 0) rfl rfl Try.underlying26 rfl (by kernel_rfl) rfl _ trivial) ?_)
            | (refine wpList_run (w := wz) rfl (v := .pointer (some ⟨u1.heap.size, 0, none⟩)) (Held.y_field (S := fun _ => True) (k := 0) (s := 0) rfl rfl Try.underlying26 rfl (by kernel_rfl) rfl _ trivial) ?_)
            | (refine wpList_run (w := wz) rfl (v := .pointer (some ⟨wr.heap.size, 1, none⟩)) (Held.y_field (S := fun _ => True) (k := 1) (s := 0) rfl rfl Try.underlying26 rfl (by kernel_rfl) rfl _ trivial) ?_)
            | (refine wpList_run (w := wz) rfl (v := .pointer (some ⟨u1.heap.size, 1, none⟩)) (Held.y_field (S := fun _ => True) (k := 1) (s := 0) rfl rfl Try.underlying26 rfl (by kernel_rfl) rfl _ trivial) ?_))
          refine Held.wp_region_bar (s := 9) (T := fun X => Blk X w.heap.size 24 #[.int .i64 K, .slice A1 n1 c1, .slice A2 n2 c2, .slice A3 n3 c3] ∧ Blk X u1.heap.size 26 #[.bool false, .int .i64 sk, .int .i64 sv, .int .i64 ss] ∧ Blk X wr.heap.size 26 #[.bool true, .int .i64 xk, .int .i64 xv, .int .i64 xs]) (by kernel_rfl) ?_
          change wpAnyB _ _ _ _ _ _ _ _ _ wz.drew
          have H := H.after (Below.refl wz.heap.size wz).drew
          have T0 : Blk wz.drew w.heap.size 24 #[.int .i64 K, .slice A1 n1 c1, .slice A2 n2 c2, .slice A3 n3 c3] ∧ Blk wz.drew u1.heap.size 26 #[.bool false, .int .i64 sk, .int .i64 sv, .int .i64 ss] ∧ Blk wz.drew wr.heap.size 26 #[.bool true, .int .i64 xk, .int .i64 xv, .int .i64 xs] := ⟨H.prog, H.carry, H.rcd⟩
          refine Held.takeB (v := .pointer (some ⟨u1.heap.size, 1, none⟩)) 0 (some 54) [9] rfl rfl (by kernel_rfl) (by kernel_rfl) (by kernel_rfl) (by kernel_rfl) (fun _ _ _ h => h) rfl (Held.y_field (k := 1) (s := 0) rfl rfl Try.underlying26 rfl (by kernel_rfl) rfl) T0 ?_
          simp only [Act.put, Z1, Z2, Z3]
          refine Held.takeB (v := .int .i64 sk) 1 (some 55) [9] rfl rfl (by kernel_rfl) (by kernel_rfl) (by kernel_rfl) (by kernel_rfl) (fun _ _ _ h => h) rfl (Held.y_load rfl rfl (by kernel_rfl) (fun X hX => hX.2.1.cell (i := 1) rfl)) T0 ?_
          simp only [Act.put, Z1, Z2, Z3]
          refine Held.takeB (v := .agg #[.int .i64 K, .slice A1 n1 c1, .slice A2 n2 c2, .slice A3 n3 c3]) 2 (some 56) [9] rfl rfl (by kernel_rfl) (by kernel_rfl) (by kernel_rfl) (by kernel_rfl) (fun _ _ _ h => h) rfl (Held.y_load_blk (n := 4) rfl rfl Try.underlying24 rfl info_prog rfl (fun X hX => hX.1)) T0 ?_
          simp only [Act.put, Z1, Z2, Z3]
          refine Held.takeB (v := .pointer (some ⟨u1.heap.size, 1, none⟩)) 3 (some 57) [9] rfl rfl (by kernel_rfl) (by kernel_rfl) (by kernel_rfl) (by kernel_rfl) (fun _ _ _ h => h) rfl (Held.y_field (k := 1) (s := 0) rfl rfl Try.underlying26 rfl (by kernel_rfl) rfl) T0 ?_
          simp only [Act.put, Z1, Z2, Z3]
          refine Held.takeB (v := .int .i64 sk) 4 (some 58) [9] rfl rfl (by kernel_rfl) (by kernel_rfl) (by kernel_rfl) (by kernel_rfl) (fun _ _ _ h => h) rfl (Held.y_load rfl rfl (by kernel_rfl) (fun X hX => hX.2.1.cell (i := 1) rfl)) T0 ?_
          simp only [Act.put, Z1, Z2, Z3]
          refine Held.takeB (v := .pointer (some ⟨u1.heap.size, 2, none⟩)) 5 (some 59) [9] rfl rfl (by kernel_rfl) (by kernel_rfl) (by kernel_rfl) (by kernel_rfl) (fun _ _ _ h => h) rfl (Held.y_field (k := 2) (s := 0) rfl rfl Try.underlying26 rfl (by kernel_rfl) rfl) T0 ?_
          simp only [Act.put, Z1, Z2, Z3]
          refine Held.takeB (v := .int .i64 sv) 6 (some 60) [9] rfl rfl (by kernel_rfl) (by kernel_rfl) (by kernel_rfl) (by kernel_rfl) (fun _ _ _ h => h) rfl (Held.y_load rfl rfl (by kernel_rfl) (fun X hX => hX.2.1.cell (i := 2) rfl)) T0 ?_
          simp only [Act.put, Z1, Z2, Z3]
          refine Held.oneB 7 (by kernel_rfl) ?_
          refine Held.op_call 7 (some 61) 28 #[.agg #[.int .i64 K, .slice A1 n1 c1, .slice A2 n2 c2, .slice A3 n3 c3], .int .i64 sk, .int .i64 sv] rfl rfl rfl rfl (enters_of Try.func28 (by kernel_rfl) rfl) (by simp [Act.eval])
            (rfinish_any B K A1 A2 A3 n1 c1 n2 c2 n3 c3 m f fi sk sv _ wsk wsv (h1.below (H.below.mono hB)) (h2.below (H.below.mono hB)) (h3.below (H.below.mono hB)) (Nat.le_trans hB H.below.size) l1 l2 l3) ?_
          rintro e w1 ⟨rfl, b1⟩
          have H := H.after b1
          refine ⟨_, rfl, fun _ => ⟨H.prog, H.carry, H.rcd⟩, ?_⟩
          simp only [Act.put, Z1, Z2, Z3]
          clear b1 T0
          refine Held.takeB (v := .agg #[.bool false, .int .i64 sk, .int .i64 (finishV K m f fi sk sv), .int .i64 0]) 8 (some 62) [9] rfl rfl (by kernel_rfl) (by kernel_rfl) (by kernel_rfl) (by kernel_rfl) (fun _ _ _ h => h) rfl (Held.y_build rfl (by kernel_rfl)) ⟨H.prog, H.carry, H.rcd⟩ ?_
          simp only [Act.put, Z1, Z2, Z3]
          refine Held.oneB 9 (by kernel_rfl) ?_
          refine Held.op_store_blk 9 none 26 v9.heap.size 4 26 _ #[.bool false, .int .i64 sk, .int .i64 (finishV K m f fi sk sv), .int .i64 0] rfl rfl rfl rfl rfl rfl H.out info_rec rfl rfl (by kernel_rfl) ?_
          intro w2 qs g2
          have H := H.setX ho qs g2
          refine ⟨(fun h => by cases h.symm.trans (show _ = true by kernel_rfl)), ?_⟩
          simp only [Act.put]
          refine doneB (by kernel_rfl) ?_ _
          clear qs g2
          generalize w2 = wz at H ⊢
          have cr0 := H.rcd.cell (i := 0) rfl
          go_wp2_with (first
            | (refine wpList_run (w := wz) rfl (v := .pointer (some ⟨wr.heap.size, 0, none⟩)) (Held.y_field (S := fun _ => True) (k := 0) (s := 0) rfl rfl Try.underlying26 rfl (by kernel_rfl) rfl _ trivial) ?_))
          refine (rdead_any _).mono ?_
          rintro e w5 ⟨rfl, b5⟩
          have H := H.after b5
          have hqc := H.carry
          clear b5
          go_wp2_with (first
            | (refine wpList_store_blk (w := w5) rfl 26 _ _ rfl u1.heap.size 4 rfl 26 _ #[.bool true, .int .i64 0, .int .i64 0, .int .i64 0] rfl hqc info_rec rfl rfl (by kernel_rfl) ?_; intro w6 q6 g6 z6; have H := H.setC ho q6 g6; have cX := H.out; clear g6 z6 hqc q6)
            | (refine wpList_load_blk (w := w6) rfl 26 _ rfl v9.heap.size 4 rfl 26 _ cX _ Try.underlying26 rfl info_rec rfl ?_)
            | (refine wpList_build_lst (k := kRec) (w := w6) rfl 27 26 1 _ rfl Try.underlying27 _ 32 info_kRec rfl [⟨false, sk, finishV K m f fi sk sv, 0⟩] rfl (by kernel_rfl) (by omega) (by decide) ?_; intro wq qq gq zq; have H := H.after ((Below.refl w6.heap.size w6).grown gq (Nat.le_refl _) (by simp)); have lq := lst_whole (k := kRec) (xs := [⟨false, sk, finishV K m f fi sk sv, 0⟩]) (n := 1) qq rfl (fun y hy => by rw [List.mem_singleton.1 hy]; exact HYW.out); clear qq gq zq)
            | (refine wpList_append_all (k := kRec) (w := wq) rfl _ _ 27 26 rfl Try.underlying27 _ 32 info_kRec rfl u3.heap.size wq.heap.size 1 1 (some ⟨w6.heap.size, 0, none⟩) (.slice Ao m0 co0) out [⟨false, sk, finishV K m f fi sk sv, 0⟩] rfl rfl H.own lq (by rw [HOL.out]; omega) (by omega) (H.sb ho) ?_; intro v5 w7 o5 g5 n5; have a5 := H.app ho o5 g5))
          go_roundw
          case rel => exact ⟨i + 1, by omega, by go_num, by rw [HY.out]; exact o5, by rw [HE.out]; exact a5.1, a5.2.1, a5.2.2.1, a5.2.2.2, Nat.le_trans (H.sb ho) g5.size⟩
          case measure => simp [intOf]; omega
        · have HY := Lib.hid (HNO.out.trans (show out ++ [outR (finishV K m f fi) ⟨true, sk, sv, ss⟩ ⟨true, xk, xv, xs⟩] = out ++ [RD] from congrArg (fun y => out ++ [y]) rfl))
          have HE := Lib.hid (HNE.out.trans (show nextR (foldV K m f fi) ⟨true, sk, sv, ss⟩ ⟨true, xk, xv, xs⟩ = (RD : R) from rfl))
          have HYW := Lib.hid (show (RD : R).wf from wf_dead)
          clear HNO HNE
          go_wp2_with (first
            | (refine wpList_alloc_blk (w := v9) rfl 26 rfl _ zero_rec ?_; intro v10 q10 g10 z10)
            | (refine wpList_store_blk (w := v10) rfl 26 _ _ rfl v9.heap.size 4 rfl 26 _ #[.bool true, .int .i64 0, .int .i64 0, .int .i64 0] rfl q10 info_rec rfl rfl (by kernel_rfl) ?_; intro wz qz gz zz; have H := HQ.out wz (((Below.refl _ v9).grown g10 (Nat.le_refl _) (by simp)).grown gz g10.size (fun r e => by cases e; exact Nat.le_refl _)) qz; have cr0 := H.rcd.cell (i := 0) rfl; have cr1 := H.rcd.cell (i := 1) rfl; have cc0 := H.carry.cell (i := 0) rfl; have cc1 := H.carry.cell (i := 1) rfl; clear q10 qz g10 gz z10 zz)
            | (refine wpList_run (w := wz) rfl (v := .pointer (some ⟨wr.heap.size, 0, none⟩)) (Held.y_field (S := fun _ => True) (k := 0) (s := 0) rfl rfl Try.underlying26 rfl (by kernel_rfl) rfl _ trivial) ?_)
            | (refine wpList_run (w := wz) rfl (v := .pointer (some ⟨u1.heap.size, 0, none⟩)) (Held.y_field (S := fun _ => True) (k := 0) (s := 0) rfl rfl Try.underlying26 rfl (by kernel_rfl) rfl _ trivial) ?_)
            | (refine wpList_run (w := wz) rfl (v := .pointer (some ⟨wr.heap.size, 1, none⟩)) (Held.y_field (S := fun _ => True) (k := 1) (s := 0) rfl rfl Try.underlying26 rfl (by kernel_rfl) rfl _ trivial) ?_)
            | (refine wpList_run (w := wz) rfl (v := .pointer (some ⟨u1.heap.size, 1, none⟩)) (Held.y_field (S := fun _ => True) (k := 1) (s := 0) rfl rfl Try.underlying26 rfl (by kernel_rfl) rfl _ trivial) ?_))
          refine (rdead_any _).mono ?_
          rintro e w5 ⟨rfl, b5⟩
          have H := H.after b5
          have hqc := H.carry
          clear b5
          go_wp2_with (first
            | (refine wpList_store_blk (w := w5) rfl 26 _ _ rfl u1.heap.size 4 rfl 26 _ #[.bool true, .int .i64 0, .int .i64 0, .int .i64 0] rfl hqc info_rec rfl rfl (by kernel_rfl) ?_; intro w6 q6 g6 z6; have H := H.setC ho q6 g6; have cX := H.out; clear g6 z6 hqc q6)
            | (refine wpList_load_blk (w := w6) rfl 26 _ rfl v9.heap.size 4 rfl 26 _ cX _ Try.underlying26 rfl info_rec rfl ?_)
            | (refine wpList_build_lst (k := kRec) (w := w6) rfl 27 26 1 _ rfl Try.underlying27 _ 32 info_kRec rfl [RD] rfl (by kernel_rfl) (by omega) (by decide) ?_; intro wq qq gq zq; have H := H.after ((Below.refl w6.heap.size w6).grown gq (Nat.le_refl _) (by simp)); have lq := lst_whole (k := kRec) (xs := [RD]) (n := 1) qq rfl (fun y hy => by rw [List.mem_singleton.1 hy]; exact HYW.out); clear qq gq zq)
            | (refine wpList_append_all (k := kRec) (w := wq) rfl _ _ 27 26 rfl Try.underlying27 _ 32 info_kRec rfl u3.heap.size wq.heap.size 1 1 (some ⟨w6.heap.size, 0, none⟩) (.slice Ao m0 co0) out [RD] rfl rfl H.own lq (by rw [HOL.out]; omega) (by omega) (H.sb ho) ?_; intro v5 w7 o5 g5 n5; have a5 := H.app ho o5 g5))
          go_roundw
          case rel => exact ⟨i + 1, by omega, by go_num, by rw [HY.out]; exact o5, by rw [HE.out]; exact a5.1, a5.2.1, a5.2.2.1, a5.2.2.2, Nat.le_trans (H.sb ho) g5.size⟩
          case measure => simp [intOf]; omega
    · have hin : i = n := by omega
      subst hin
      rw [List.take_of_length_le (by rw [HL.out]; exact Nat.le_refl _)] at ow qc
      have HEN := Lib.hid (bare_ends (F := (foldV K m f fi)) co rs)
      have HOU := Lib.hid (outs_bare (F := (foldV K m f fi)) (G := (finishV K m f fi)) co rs)
      generalize ends (foldV K m f fi) co rs = so at qc HEN
      generalize outs (foldV K m f fi) (finishV K m f fi) co rs = out at ow HOU
      have cd := qc.cell (i := 0) rfl
      have ck := qc.cell (i := 1) rfl
      have cv := qc.cell (i := 2) rfl
      obtain ⟨sd, sk, sv, ss⟩ := so
      cases sd
      · go_wp2_with (refine wpList_run (w := wr) rfl (v := .pointer (some ⟨u1.heap.size, 0, none⟩)) (Held.y_field (S := fun _ => True) (k := 0) (s := 0) rfl rfl Try.underlying26 rfl (by kernel_rfl) rfl _ trivial) ?_)
        refine Held.wp_region_bar (s := 7) (T := fun X => Blk X u1.heap.size 26 #[.bool false, .int .i64 sk, .int .i64 sv, .int .i64 ss]) (by kernel_rfl) ?_
        change wpAnyB _ _ _ _ _ _ _ _ _ wr.drew
        have DB := (Below.refl wr.heap.size wr).drew
        have T0 : Blk wr.drew u1.heap.size 26 #[.bool false, .int .i64 sk, .int .i64 sv, .int .i64 ss] := qc.after DB
        refine Held.takeB (v := u8) 0 (some 79) [7] rfl rfl (by kernel_rfl) (by kernel_rfl) (by kernel_rfl) (by kernel_rfl) (fun _ _ _ h => h) rfl (Held.y_move rfl rfl) T0 ?_
        simp only [Act.put, Z1, Z2, Z3]
        refine Held.takeB (v := .pointer (some ⟨u1.heap.size, 1, none⟩)) 1 (some 80) [7] rfl rfl (by kernel_rfl) (by kernel_rfl) (by kernel_rfl) (by kernel_rfl) (fun _ _ _ h => h) rfl (Held.y_field (k := 1) (s := 0) rfl rfl Try.underlying26 rfl (by kernel_rfl) rfl) T0 ?_
        simp only [Act.put, Z1, Z2, Z3]
        refine Held.takeB (v := .int .i64 sk) 2 (some 81) [7] rfl rfl (by kernel_rfl) (by kernel_rfl) (by kernel_rfl) (by kernel_rfl) (fun _ _ _ h => h) rfl (Held.y_load rfl rfl (by kernel_rfl) (fun X hX => (hX : Blk X _ _ _).cell (i := 1) rfl)) T0 ?_
        simp only [Act.put, Z1, Z2, Z3]
        refine Held.takeB (v := .pointer (some ⟨u1.heap.size, 2, none⟩)) 3 (some 82) [7] rfl rfl (by kernel_rfl) (by kernel_rfl) (by kernel_rfl) (by kernel_rfl) (fun _ _ _ h => h) rfl (Held.y_field (k := 2) (s := 0) rfl rfl Try.underlying26 rfl (by kernel_rfl) rfl) T0 ?_
        simp only [Act.put, Z1, Z2, Z3]
        refine Held.takeB (v := .int .i64 sv) 4 (some 83) [7] rfl rfl (by kernel_rfl) (by kernel_rfl) (by kernel_rfl) (by kernel_rfl) (fun _ _ _ h => h) rfl (Held.y_load rfl rfl (by kernel_rfl) (fun X hX => (hX : Blk X _ _ _).cell (i := 2) rfl)) T0 ?_
        simp only [Act.put, Z1, Z2, Z3]
        refine Held.takeB (v := .agg #[.bool false, .int .i64 sk, .int .i64 sv, .int .i64 0]) 5 (some 84) [7] rfl rfl (by kernel_rfl) (by kernel_rfl) (by kernel_rfl) (by kernel_rfl) (fun _ _ _ h => h) rfl (Held.y_build rfl (by kernel_rfl)) T0 ?_
        simp only [Act.put, Z1, Z2, Z3]
        refine Held.takeB (v := u8) 6 (some 6) [7] rfl rfl (by kernel_rfl) (by kernel_rfl) (by kernel_rfl) (by kernel_rfl) (fun _ _ _ h => h) rfl (Held.y_assign rfl rfl) T0 ?_
        simp only [Act.put, Z1, Z2, Z3]
        refine Held.oneB 7 (by kernel_rfl) ?_
        refine Held.op_store_blk 7 none 26 u2.heap.size 4 26 _ #[.bool false, .int .i64 sk, .int .i64 sv, .int .i64 0] rfl rfl rfl rfl rfl rfl (qr.after DB) info_rec rfl rfl (by kernel_rfl) ?_
        intro w2 qs g2
        have o2 : OwnL kRec 26 w2 u3.heap.size u8 out := (ow.below DB).kept g2 (.inr fun ee => by have := (ow.lt _ ee).1; omega)
        have bz : Below w.heap.size w w2 := (bw.trans (DB.mono bw.size)).grown g2 (Nat.le_trans bw.size DB.size) (fun r e => by cases e; omega)
        refine ⟨(fun h => by cases h.symm.trans (show _ = true by kernel_rfl)), ?_⟩
        simp only [Act.put]
        refine doneB (by kernel_rfl) ?_ _
        go_wp2_with fail
        refine bodyPost_ret (results_tmp_blk rfl _ _ u2.heap.size 4 _ _ u8 rfl rfl qs _ Try.underlying26 rfl info_rec rfl) rfl ?_
        rw [← HEN.out, HOU.out]
        exact ⟨u8, rfl, o2.less (by omega), bz⟩
      · go_wp2_with (refine wpList_run (w := wr) rfl (v := .pointer (some ⟨u1.heap.size, 0, none⟩)) (Held.y_field (S := fun _ => True) (k := 0) (s := 0) rfl rfl Try.underlying26 rfl (by kernel_rfl) rfl _ trivial) ?_)
        refine (rdead_any _).mono ?_
        rintro e w5 ⟨rfl, b5⟩
        have qr5 := qr.after b5
        go_wp2_with (refine wpList_store_blk (w := w5) rfl 26 _ _ rfl u2.heap.size 4 rfl 26 _ #[.bool true, .int .i64 0, .int .i64 0, .int .i64 0] rfl qr5 info_rec rfl rfl (by kernel_rfl) ?_; intro w2 qs g2 z2)
        have o2 : OwnL kRec 26 w2 u3.heap.size u8 out := (ow.below b5).kept g2 (.inr fun ee => by have := (ow.lt _ ee).1; omega)
        have bz : Below w.heap.size w w2 := (bw.trans (b5.mono bw.size)).grown g2 (Nat.le_trans bw.size b5.size) (fun r e => by cases e; omega)
        refine bodyPost_ret (results_tmp_blk rfl _ _ u2.heap.size 4 _ _ u8 rfl rfl qs _ Try.underlying26 rfl info_rec rfl) rfl ?_
        rw [← HEN.out, HOU.out]
        exact ⟨u8, rfl, o2.less (by omega), bz⟩
set_option maxRecDepth 100000 in
set_option maxHeartbeats 8000000 in
theorem rstep_bad (B : Nat) (K : Int) (A1 A2 A3 A : Option Addr) (n1 c1 n2 c2 n3 c3 n c : Nat) (m f fi : List O) (co : R) (w : World) (h1 : Lst kO w B A1 n1 m) (h2 : Lst kO w B A2 n2 f) (h3 : Lst kO w B A3 n3 fi) (hB : B ≤ w.heap.size) (hC : checkB K m f fi = false) (l1 : n1 ≤ 1048576) (l2 : n2 ≤ 1048576) (l3 : n3 ≤ 1048576) :
    Calls Try.prog 11 #[.agg #[.int .i64 K, .slice A1 n1 c1, .slice A2 n2 c2, .slice A3 n3 c3], .agg #[.bool co.d, .int .i64 co.k, .int .i64 co.v, .int .i64 co.s], .slice A n c] w fun e w' => e = .returned (.tuple #[.slice none 0 0, .agg #[.bool true, .int .i64 0, .int .i64 0, .int .i64 0]]) ∧ Below w.heap.size w w' := by
  have HCE := Lib.hid (show checkE K m f fi = 8 by rw [checkE, if_neg (by rw [hC]; simp)])
  clear hC
  go_enter Try.func11, Try.ntmps11
  go_wp2_with (first
    | (refine wpList_box_blk (w := w) rfl 24 _ rfl #[.int .i64 K, .slice A1 n1 c1, .slice A2 n2 c2, .slice A3 n3 c3] rfl ?_; intro u1 q1 g1 z1)
    | (refine wpList_box_blk (w := u1) rfl 26 _ rfl #[.bool co.d, .int .i64 co.k, .int .i64 co.v, .int .i64 co.s] rfl ?_; intro u2 q2 g2 z2)
    | (refine wpList_alloc_blk (w := u2) rfl 26 rfl _ zero_rec ?_; intro u3 q3 g3 z3; have q1 := (q1.grown g2 (by simp)).grown g3 (by simp))
    | (refine wpList_load_blk (w := u3) rfl 24 _ rfl w.heap.size 4 rfl 24 _ q1 _ Try.underlying24 rfl info_prog rfl ?_))
  have b3 : Below w.heap.size w u3 := (((Below.refl _ w).grown g1 (Nat.le_refl _) (by simp)).grown g2 g1.size (by simp)).grown g3 (Nat.le_trans g1.size g2.size) (by simp)
  have lu1 : w.heap.size < u1.heap.size := (Nat.lt_of_lt_of_le (Nat.lt_succ_self _) (by have := z1.out; omega))
  have lu2 : u1.heap.size < u2.heap.size := q2.lt
  have lu3 : u2.heap.size < u3.heap.size := q3.lt
  have q2 := q2.grown g3 (by simp)
  clear g1 g2 g3 z1 z2 z3
  refine (rcheck_any B K A1 A2 A3 n1 c1 n2 c2 n3 c3 m f fi u3 (h1.below (b3.mono hB)) (h2.below (b3.mono hB)) (h3.below (b3.mono hB)) (Nat.le_trans hB b3.size) (by omega) (by omega) (by omega)).mono ?_
  rintro e u4 ⟨rfl, b4⟩
  rw [HCE.out]
  have q3 := q3.after b4
  have b4' := b3.trans (b4.mono b3.size)
  have lu4 := b4.size
  clear b4
  go_wp2_with fail
  refine (rdead_any _).mono ?_
  rintro e w5 ⟨rfl, b5⟩
  have qr5 := q3.after b5
  go_wp2_with (refine wpList_store_blk (w := w5) rfl 26 _ _ rfl u2.heap.size 4 rfl 26 _ #[.bool true, .int .i64 0, .int .i64 0, .int .i64 0] rfl qr5 info_rec rfl rfl (by kernel_rfl) ?_; intro w2 qs g2 z2)
  have bz : Below w.heap.size w w2 := (b4'.trans (b5.mono b4'.size)).grown g2 (Nat.le_trans b4'.size b5.size) (fun r e => by cases e; omega)
  exact bodyPost_ret (results_tmp_blk rfl _ _ u2.heap.size 4 _ _ (.slice none 0 0) rfl rfl qs _ Try.underlying26 rfl info_rec rfl) rfl ⟨rfl, bz⟩
end Go.Proofs.Ytkiempdpfmolfaa.Cn
