/-
  What stands between two rounds of package chain's Step: the variables' blocks, the list of the call's own; what the rounds come to.
  Package chain's Step by its contract, of a program that may be.
  Package chain's Step by its contract, of a program that may not be.
  What the laws of package dominolaw15 ask first (awake), and their program that adds, by their contracts.
  What stands at a key of a list of pairs, and what is put there: no program here.
-/
import Derived.Test.YtkiempdpfmolfaaB9
import Derived.WalkMore
import Derived.Test.YtkiempdpfmolfaaB3
import Derived.Test.YtkiempdpfmolfaaB6
set_option linter.unusedVariables false
namespace Go.Proofs.Ytkiempdpfmolfaa.Cn
open Go.RowKit Go.Shelf Go.Proofs.Ytkiempdpfmolfaa Mem Held Go.Proofs.Ytkiempdpfmolfaa.Range Rc Rs Sl Vm Mg
attribute [local go_sem] Oper.semAt_some
attribute [local irreducible] wpList wpListIn Calls
theorem zero_recs : (Try.prog.info? 27).bind (·.zero) = some (.slice none 0 0) := by kernel_rfl
def stepP (F G : Int → Int → Int) (st : R × List R) (x : Nat × R) : R × List R := if x.1 = 0 then (bareR x.2, st.2) else (nextR F st.1 x.2, st.2 ++ [outR G st.1 x.2])
def foldN (F G : Int → Int → Int) (pre : List (Nat × R)) : R × List R := pre.foldl (stepP F G) (RD, [])
section
variable {F G : Int → Int → Int}
theorem foldN_snoc (pre : List (Nat × R)) (x : Nat × R) : foldN F G (pre ++ [x]) = stepP F G (foldN F G pre) x := by rw [foldN, List.foldl_append]; rfl
theorem foldN_num : ∀ (i : Nat) (l : List R) (st : R × List R), (num (i + 1) l).foldl (stepP F G) st = (ends F st.1 l, st.2 ++ outs F G st.1 l)
  | i, [], st => by simp [num, ends, outs]
  | i, r :: l, st => by
    rw [num, List.foldl_cons, foldN_num (i + 1) l, stepP, if_neg (by simp), ends, outs, List.append_assoc]
    rfl
theorem foldN_all (co : R) (rs : List R) : foldN F G (num 0 (co :: rs)) = (ends F (bareR co) rs, outs F G (bareR co) rs) := by
  rw [foldN, num, List.foldl_cons, foldN_num 0 rs, stepP, if_pos rfl]
  rfl
theorem foldN_wf (hF : ∀ a b : Int, (Lit.int .i64 a).wf = true → (Lit.int .i64 b).wf = true → (Lit.int .i64 (F a b)).wf = true) (hG : ∀ a b : Int, (Lit.int .i64 a).wf = true → (Lit.int .i64 b).wf = true → (Lit.int .i64 (G a b)).wf = true) :
    ∀ (pre : List (Nat × R)) (st : R × List R), (∀ x ∈ pre, x.2.wf) → st.1.wf → (∀ y ∈ st.2, y.wf) → (pre.foldl (stepP F G) st).1.wf ∧ (∀ y ∈ (pre.foldl (stepP F G) st).2, y.wf) ∧ (pre.foldl (stepP F G) st).2.length ≤ st.2.length + pre.length
  | [], st, _, h1, h2 => ⟨h1, h2, Nat.le_refl _⟩
  | x :: pre, st, hx, h1, h2 => by
    have hx0 := hx x (by simp)
    have e : (stepP F G st x).1.wf ∧ (∀ y ∈ (stepP F G st x).2, y.wf) ∧ (stepP F G st x).2.length ≤ st.2.length + 1 := by
      unfold stepP
      split
      · exact ⟨bare_wf hx0, h2, Nat.le_succ _⟩
      · refine ⟨next_wf hF h1 hx0, fun y hy => ?_, by simp⟩
        rcases List.mem_append.1 hy with hy | hy
        · exact h2 y hy
        · rw [List.mem_singleton.1 hy]; exact out_wf hG h1
    obtain ⟨r1, r2, r3⟩ := foldN_wf hF hG pre (stepP F G st x) (fun y hy => hx y (by simp [hy])) e.1 e.2.1
    exact ⟨r1, r2, by rw [List.length_cons]; have := e.2.2; rw [List.foldl_cons]; omega⟩
theorem num_mem : ∀ (i : Nat) (l : List R) (x : Nat × R), x ∈ num i l → x.2 ∈ l
  | i, r :: l, x, h => by
    rcases List.mem_cons.1 h with rfl | h
    · simp
    · exact List.mem_cons_of_mem _ (num_mem (i + 1) l x h)
theorem num_length : ∀ (i : Nat) (l : List R), (num i l).length = l.length
  | _, [] => rfl
  | i, r :: l => by rw [num, List.length_cons, num_length, List.length_cons]
end
theorem results_tmp_blk {P : Program} {fn : Func} {u p : Tmp} {ty : TypeId} (h : fn.results = #[.tmp u, .cell p ty]) (tmps : Array Value) (w : World) (g n : Nat) (t : TypeId) (cs : Array Value) (x : Value) (hp : tmps.getD p undef = .pointer (some ⟨g, 0, none⟩)) (hx : tmps.getD u undef = x)
    (hr : Blk w g t cs) (d : TypeDesc) (hu : P.underlying ty = some d) (hd : (match d with | .struct _ | .array _ _ => true | _ => false) = true) (hi : (P.info? ty).map (·.size) = some n) (hn : cs.size = n) : (results fn tmps).run P w = .ok (.tuple #[x, .agg cs]) w := by
  have a1 : (asAddr (.pointer (some ⟨g, 0, none⟩))).run P w = .ok ⟨g, 0, none⟩ w := by simp [asAddr]
  have a2 := run_loadVar_row (P := P) w g t ty cs (0, 0) d hr hu hd (by rw [hi, hn])
  have hp2 : tmps[p]?.getD undef = .pointer (some ⟨g, 0, none⟩) := by simpa using hp
  have hx2 : tmps[u]?.getD undef = x := by simpa using hx
  simp only [results, h]
  simp [Sem.run_bind, Result.andThen, hp2, hx2, a1, a2]
theorem own_obj {α : Type} {k : St α} {t : TypeId} {w : World} {base : Nat} {v : Value} {xs : List α} (h : OwnL k t w base v xs) {b : Nat} (e : v.ownBlock = some b) : ∃ cs, w.heap[b]? = some (.cells cs t (0, 0)) := by
  rcases h.2 with ⟨rfl, _⟩ | ⟨g', cap, cur, rfl, _, hg, _⟩
  · cases e
  · have e : some g' = some b := e
    injection e with e
    subst e
    exact ⟨cur, hg⟩
structure NS (w : World) (lr ls lo SB : Nat) (PC : Array Value) (v : Value) (out : List R) (so : R) (W : World) : Prop where
  var : W.heap[lo]? = some (.cells #[v] 27 (0, 0))
  own : OwnL kRec 26 W SB v out
  so : Blk W ls 26 #[.bool so.d, .int .i64 so.k, .int .i64 so.v, .int .i64 so.s]
  res : Blk W lr 26 #[.bool false, .int .i64 0, .int .i64 0, .int .i64 0]
  prog : Blk W w.heap.size 24 PC
  below : Below w.heap.size w W
section
variable {w W W' : World} {lr ls lo SB : Nat} {PC : Array Value} {v : Value} {out : List R} {so : R}
theorem NS.grown (h : NS w lr ls lo SB PC v out so W) {row : Option Nat} (hg : W.grownBy W' row) (h1 : some lo ≠ row) (h2 : some ls ≠ row) (h3 : some lr ≠ row) (h4 : some w.heap.size ≠ row) (h5 : v.ownBlock = none ∨ v.ownBlock ≠ row) (h6 : ∀ r, row = some r → w.heap.size ≤ r) : NS w lr ls lo SB PC v out so W' :=
  ⟨Held.keep_cells h.var hg h1, h.own.kept hg h5, h.so.grown hg h2, h.res.grown hg h3, h.prog.grown hg h4, h.below.grown hg h.below.size h6⟩
theorem NS.after (h : NS w lr ls lo SB PC v out so W) (hb : Below W.heap.size W W') : NS w lr ls lo SB PC v out so W' :=
  h.grown (grown_of_below hb none) (by simp) (by simp) (by simp) (by simp) (by cases v.ownBlock <;> simp) (fun r e => by cases e)
theorem NS.from (h : NS w lr ls lo SB PC v out so W) {row : Option Nat} {B : Nat} (hB : w.heap.size ≤ B) (hg : W.grownBy W' row) (hr : ∀ r, row = some r → B ≤ r ∧ ∃ o : Obj, W.heap[r]? = some o ∧ o.isCells = false) : NS w lr ls lo SB PC v out so W' := by
  have hne := fun (b : Nat) (t : TypeId) (cs : Array Value) (hb : W.heap[b]? = some (.cells cs t (0, 0))) => (show some b ≠ row from fun e => by
    obtain ⟨_, o, ho, hc⟩ := hr b e.symm
    rw [hb] at ho
    cases ho
    cases hc)
  refine h.grown hg (hne _ _ _ h.var) (hne _ _ _ h.so) (hne _ _ _ h.res) (hne _ _ _ h.prog) ?_ (fun r e => Nat.le_trans hB (hr r e).1)
  cases hv : v.ownBlock with
  | none => exact .inl rfl
  | some b =>
    obtain ⟨cs, hcs⟩ := own_obj h.own hv
    exact .inr (hne _ _ _ hcs)
structure Ord (w : World) (lr ls lo SB : Nat) : Prop where
  r : w.heap.size < lr
  s : lr < ls
  b : ls < SB
  o : SB ≤ lo
theorem NS.own_ne (h : NS w lr ls lo SB PC v out so W) (ho : Ord w lr ls lo SB) : some lo ≠ v.ownBlock ∧ some ls ≠ v.ownBlock ∧ some lr ≠ v.ownBlock ∧ some w.heap.size ≠ v.ownBlock := by
  refine ⟨fun e => h.own.ne_blk (t' := 27) (cs := #[v]) h.var (by decide) e.symm, fun e => ?_, fun e => ?_, fun e => ?_⟩
  all_goals
    have := (h.own.lt _ e.symm).1
    have := ho.r
    have := ho.s
    have := ho.b
    omega
theorem NS.app (h : NS w lr ls lo SB PC v out so W) (ho : Ord w lr ls lo SB) {v' : Value} {out' : List R} (hv : OwnL kRec 26 W' SB v' out') (hg : W.grownBy W' v.ownBlock) :
    W'.heap[lo]? = some (.cells #[v] 27 (0, 0)) ∧ Blk W' ls 26 #[.bool so.d, .int .i64 so.k, .int .i64 so.v, .int .i64 so.s] ∧ Blk W' lr 26 #[.bool false, .int .i64 0, .int .i64 0, .int .i64 0] ∧ Blk W' w.heap.size 24 PC ∧ Below w.heap.size w W' := by
  obtain ⟨e1, e2, e3, e4⟩ := h.own_ne ho
  refine ⟨Held.keep_cells h.var hg e1, h.so.grown hg e2, h.res.grown hg e3, h.prog.grown hg e4, h.below.grown hg h.below.size (fun r e => ?_)⟩
  have := (h.own.lt _ e).1
  have := ho.r
  have := ho.s
  have := ho.b
  omega
theorem NS.put {W'' : World} (h : NS w lr ls lo SB PC v out so W) (ho : Ord w lr ls lo SB) {v' : Value} {out' : List R} (hv : OwnL kRec 26 W' SB v' out') (hg : W.grownBy W' v.ownBlock) (hs : W''.heap[lo]? = some (.cells #[v'] 27 (0, 0))) (hg2 : W'.grownBy W'' (some lo)) : NS w lr ls lo SB PC v' out' so W'' := by
  obtain ⟨a1, a2, a3, a4, a5⟩ := h.app ho hv hg
  have o1 := ho.r
  have o2 := ho.s
  have o3 := ho.b
  have o4 := ho.o
  refine ⟨hs, hv.kept hg2 ?_, a2.grown hg2 ?_, a3.grown hg2 ?_, a4.grown hg2 ?_, a5.grown hg2 a5.size (fun r e => by cases e; omega)⟩
  · have := hv.ne_blk (t' := 27) (cs := #[v]) a1 (by decide)
    exact .inr this
  all_goals
    intro e
    injection e with e
    omega
theorem NS.next (h : NS w lr ls lo SB PC v out so W) (ho : Ord w lr ls lo SB) {so' : R} (hs : Blk W' ls 26 #[.bool so'.d, .int .i64 so'.k, .int .i64 so'.v, .int .i64 so'.s]) (hg : W.grownBy W' (some ls)) : NS w lr ls lo SB PC v out so' W' := by
  have o1 := ho.r
  have o2 := ho.s
  have o3 := ho.b
  have o4 := ho.o
  refine ⟨Held.keep_cells h.var hg ?_, h.own.kept hg ?_, hs, h.res.grown hg ?_, h.prog.grown hg ?_, h.below.grown hg h.below.size (fun r e => by cases e; omega)⟩
  · intro e; injection e with e; omega
  · refine .inr fun e => ?_
    have := (h.own.lt _ e).1
    omega
  all_goals
    intro e
    injection e with e
    omega
theorem others_ownL {α : Type} {k : St α} {t : TypeId} {base : Nat} {xs : List α} (h : OwnL k t W base v xs) (hg : W.grownBy W' v.ownBlock) : KeepsOthers W W' := KeepsOthers.of_grownBy hg fun j o e ho => by
  obtain ⟨cs, hcs⟩ := own_obj h e
  rw [hcs] at ho
  cases ho
  rfl
end
end Go.Proofs.Ytkiempdpfmolfaa.Cn
namespace Go.Proofs.Ytkiempdpfmolfaa.Cn
open Go.RowKit Go.Shelf Go.Proofs.Ytkiempdpfmolfaa Mem Held Go.Proofs.Ytkiempdpfmolfaa.Range Ct Rc Rs Sl Vm Mg
attribute [local go_sem] Oper.semAt_some
attribute [local irreducible] wpList wpListIn Calls
set_option maxRecDepth 100000 in
set_option maxHeartbeats 16000000 in
theorem step_any (B B2 : Nat) (K : Int) (A1 A2 A3 A : Option Addr) (n1 c1 n2 c2 n3 c3 n c : Nat) (m f fi : List O) (co : R) (rs : List R) (w : World) (h1 : Lst kO w B A1 n1 m) (h2 : Lst kO w B A2 n2 f) (h3 : Lst kO w B A3 n3 fi) (hl : Lst kRec w B2 A n rs) (hB : B ≤ w.heap.size) (hB2 : B2 ≤ w.heap.size) (hn : n ≤ 524288) (hC : checkB K m f fi = true) (hco : co.wf) :
    Calls Try.prog 10 #[.agg #[.int .i64 K, .slice A1 n1 c1, .slice A2 n2 c2, .slice A3 n3 c3], .agg #[.bool co.d, .int .i64 co.k, .int .i64 co.v, .int .i64 co.s], .slice A n c] w fun e w' => ∃ v, e = .returned (.tuple #[v, .agg #[.bool (ends (foldV K m f fi) (bareR co) rs).d, .int .i64 (ends (foldV K m f fi) (bareR co) rs).k, .int .i64 (ends (foldV K m f fi) (bareR co) rs).v, .int .i64 (ends (foldV K m f fi) (bareR co) rs).s]]) ∧ OwnL kRec 26 w' w.heap.size v (outs (foldV K m f fi) (finishV K m f fi) (bareR co) rs) ∧ Below w.heap.size w w' := by
  have HCE := Lib.hid (show checkE K m f fi = 0 by rw [checkE, if_pos hC])
  have HFW := Lib.hid (fun a b ha hb => Sp.foldV_wf (K := K) (m := m) (e := fi) h2.2.1 a b ha hb)
  have HGW := Lib.hid (fun a b ha hb => Sp.finishV_wf (K := K) (m := m) (f := f) h3.2.1 a b ha hb)
  have HNL := Lib.hid (show (num 0 (co :: rs)).length = n + 1 by rw [num_length, List.length_cons, hl.1])
  have HNW := Lib.hid (show ∀ x ∈ num 0 (co :: rs), x.2.wf from fun x hx => by
    rcases List.mem_cons.1 (num_mem 0 _ x hx) with e | h
    · rw [e]; exact hco
    · exact hl.2.1 _ h)
  obtain ⟨i0, hi0, hz0, hsb⟩ := info_parts info_kRec
  clear hC
  refine (callsIn_wide (n := 3)).1 ?_
  refine callsIn_of_wp_marks Try.func10 rfl trivial ?_ rfl
  simp only [Try.ntmps10, List.size_toArray, List.length_cons, List.length_nil, Nat.reduceAdd, Nat.reduceSub, Array.replicate_succ, Array.replicate_zero, List.push_toArray, List.append_toArray, List.nil_append, List.cons_append]
  refine wpIn_wide.2 ?_
  go_wp2_with (first
    | (refine wpList_box_blk (w := w) rfl 24 _ rfl #[.int .i64 K, .slice A1 n1 c1, .slice A2 n2 c2, .slice A3 n3 c3] rfl ?_; intro u1 q1 g1 z1)
    | (refine wpList_box_blk (w := u1) rfl 26 _ rfl #[.bool co.d, .int .i64 co.k, .int .i64 co.v, .int .i64 co.s] rfl ?_; intro u2 q2 g2 z2)
    | (refine wpList_alloc_blk (w := u2) rfl 26 rfl _ zero_rec ?_; intro u3 q3 g3 z3))
  have b3 : Below w.heap.size w u3 := (((Below.refl _ w).grown g1 (Nat.le_refl _) (by simp)).grown g2 g1.size (by simp)).grown g3 (Nat.le_trans g1.size g2.size) (by simp)
  have l1 : w.heap.size < u1.heap.size := q1.lt
  have l2 : u1.heap.size < u2.heap.size := q2.lt
  have l3 : u2.heap.size < u3.heap.size := q3.lt
  have q1 := (q1.grown g2 (by simp)).grown g3 (by simp)
  have q2 := q2.grown g3 (by simp)
  clear g1 g2 g3 z1 z2 z3
  refine wp_scope_straight ?_
  go_wp2_with fail
  refine (dead_any _).mono ?_
  rintro e u4 ⟨rfl, b4⟩
  have q1 := q1.after b4
  have q2 := q2.after b4
  have q3 := q3.after b4
  have l4 := b4.size
  have b4 := b3.trans (b4.mono b3.size)
  go_wp2_with (first
    | (refine wpList_alloc_blk (w := u4) rfl 26 rfl _ zero_rec ?_; intro u5 q5 g5 z5; have q1 := q1.grown g5 (by simp))
    | (refine wpList_store_blk (w := u5) rfl 26 _ _ rfl u4.heap.size 4 rfl 26 _ #[.bool true, .int .i64 0, .int .i64 0, .int .i64 0] rfl q5 info_rec rfl rfl (by kernel_rfl) ?_; intro u6 q6 g6 z6; have q1 := q1.grown g6 (by intro e; injection e with e; omega))
    | (refine wpList_load_blk (w := u6) rfl 24 _ rfl w.heap.size 4 rfl 24 _ q1 _ Try.underlying24 rfl info_prog rfl ?_))
  have l5 : u4.heap.size < u5.heap.size := q5.lt
  have q2 := (q2.grown g5 (by simp)).grown g6 (by intro e; injection e with e; omega)
  have q3 := (q3.grown g5 (by simp)).grown g6 (by intro e; injection e with e; omega)
  have b6 : Below w.heap.size w u6 := (b4.grown g5 b4.size (by simp)).grown g6 (by have := g5.size; omega) (fun r e => by cases e; omega)
  have l6 := g6.size
  clear g5 g6 q5 z5 z6 b4 b3
  refine (check_any B K A1 A2 A3 n1 c1 n2 c2 n3 c3 m f fi u6 (h1.below (b6.mono hB)) (h2.below (b6.mono hB)) (h3.below (b6.mono hB)) (Nat.le_trans hB b6.size)).mono ?_
  rintro e u7 ⟨rfl, b7⟩
  rw [HCE.out]
  have q1 := q1.after b7
  have q2 := q2.after b7
  have q3 := q3.after b7
  have q6 := q6.after b7
  have l7 := b7.size
  have b7 := b6.trans (b7.mono b6.size)
  clear b6
  go_wp2_with (first
    | (refine wpList_make_own u7 rfl _ _ 27 rfl u7.heap.size 26 i0 (.agg #[.bool false, .int .i64 0, .int .i64 0, .int .i64 0]) 4 Try.underlying27 hi0 hz0 hsb.1 .i64 .i64 _ n rfl rfl rfl (by rw [hsb.2]; omega) (by unfold maxLen; omega) (Nat.le_refl _) ?_; intro u8 o8 g8; have o8 : OwnL kRec 26 u8 u7.heap.size (.slice (some ⟨u7.heap.size, 0, none⟩) 0 n) [] := o8)
    | (refine wpList_alloc_cell (w := u8) rfl 27 rfl _ zero_recs rfl ?_; intro u9 q9 g9 z9)
    | (refine wpList_store_box (w := u9) rfl 27 _ _ rfl u8.heap.size rfl 27 _ (.slice (some ⟨u7.heap.size, 0, none⟩) 0 n) rfl q9 (by kernel_rfl) rfl rfl ?_; intro u10 q10 g10))
  apply wp_label
  have l8 : u7.heap.size < u8.heap.size := (o8.lt _ rfl).2
  have l9 : u8.heap.size < u9.heap.size := (Array.getElem?_eq_some_iff.1 q9).1
  have l10 := g10.size
  have ho : Ord w u2.heap.size u4.heap.size u8.heap.size u7.heap.size := ⟨by omega, by omega, by omega, by omega⟩
  have n10 : ∀ b, b < u8.heap.size → some b ≠ some u8.heap.size := fun b hb e => by injection e with e; omega
  have b10 : Below w.heap.size w u10 := ((b7.grown g8 b7.size (by simp)).grown g9 (by omega) (by simp)).grown g10 (by omega) (fun r e => by cases e; omega)
  have H0 : NS w u2.heap.size u4.heap.size u8.heap.size u7.heap.size #[.int .i64 K, .slice A1 n1 c1, .slice A2 n2 c2, .slice A3 n3 c3] (.slice (some ⟨u7.heap.size, 0, none⟩) 0 n) [] RD u10 :=
    ⟨q10, (o8.kept g9 (by simp [Value.ownBlock])).kept g10 (.inr (n10 _ l8)), ((q6.grown g8 (by simp)).grown g9 (by simp)).grown g10 (n10 _ (by omega)), ((q3.grown g8 (by simp)).grown g9 (by simp)).grown g10 (n10 _ (by omega)), ((q1.grown g8 (by simp)).grown g9 (by simp)).grown g10 (n10 _ (by omega)), b10⟩
  have q2 := ((q2.grown g8 (by simp)).grown g9 (by simp)).grown g10 (n10 _ (by omega))
  clear q1 q3 q6 o8 q9 q10 g8 g9 g10 z9 b7 n10 hi0 hz0 hsb
  go_wp2_with (refine wpList_load_blk (w := u10) rfl 26 _ rfl u1.heap.size 4 rfl 26 _ q2 _ Try.underlying26 rfl info_rec rfl ?_)
  refine (behind_any co A n c u10).mono ?_
  rintro e u11 ⟨bi, bl, rfl, qi, ql, hbi, hbl, b11⟩
  have hbi3 := qi.lt
  have hbl3 := ql.lt
  have hlo : u8.heap.size ≠ bi ∧ u8.heap.size ≠ bl := ⟨by omega, by omega⟩
  have l11 := b11.size
  have H0 := H0.after b11
  have b12 := b10.trans (b11.mono b10.size)
  have hit := fun N => behind_give N bi bl (fun b => b = u4.heap.size ∨ (u7.heap.size ≤ b ∧ b ≠ bi ∧ b ≠ bl)) B2 co A n c rs u11 qi ql (fun e => e.elim (fun e => by omega) (fun e => e.2.1 rfl)) (fun e => e.elim (fun e => by omega) (fun e => e.2.2 rfl)) (hl.below (b12.mono hB2)) (fun b hb e => e.elim (fun e => by omega) (fun e => by have := e.1; omega)) (by omega) (by omega)
  clear qi ql q2 b10 b11 hl
  go_wp2_with fail
  refine (wpIn_wide (n := 3)).1 ?_
  refine wpIn_rangeFunc_give rfl (by omega) (gf := 34) (lb := #[.pointer (some ⟨bi, 0, none⟩), .pointer (some ⟨bl, 0, none⟩)]) rfl trivial (enters_of Try.func34 (by kernel_rfl) rfl)
    (hit _) (fun h k => h.trans k) (fun W l o o' hl ho hc _ => Only.put W l o o' ho hc) (Below.refl _ _) (fun x B W args hx => by cases hx; rfl)
    (fun pre W => ∃ v, (NS w u2.heap.size u4.heap.size u8.heap.size u7.heap.size #[.int .i64 K, .slice A1 n1 c1, .slice A2 n2 c2, .slice A3 n3 c3] v (foldN (foldV K m f fi) (finishV K m f fi) pre).2 (foldN (foldV K m f fi) (finishV K m f fi) pre).1 W ∧ v.ownBlock ≠ some bi) ∧ v.ownBlock ≠ some bl) ?hi ⟨_, ⟨H0, fun e => by have e : some u7.heap.size = some bi := e; injection e with e; omega⟩, fun e => by have e : some u7.heap.size = some bl := e; injection e with e; omega⟩
    (fun x a' pre W => ∃ v, ((NS w u2.heap.size u4.heap.size u8.heap.size u7.heap.size #[.int .i64 K, .slice A1 n1 c1, .slice A2 n2 c2, .slice A3 n3 c3] v (foldN (foldV K m f fi) (finishV K m f fi) pre).2 (foldN (foldV K m f fi) (finishV K m f fi) pre).1 W ∧ v.ownBlock ≠ some bi) ∧ v.ownBlock ≠ some bl) ∧ ∃ p, u11.heap.size ≤ p ∧ v.ownBlock ≠ some p ∧ Blk W p 26 #[.bool x.2.d, .int .i64 x.2.k, .int .i64 x.2.v, .int .i64 x.2.s] ∧ a' = { tmps := #[.agg #[.int .i64 K, .slice A1 n1 c1, .slice A2 n2 c2, .slice A3 n3 c3], .agg #[.bool co.d, .int .i64 co.k, .int .i64 co.v, .int .i64 co.s], .slice A n c, .pointer (some ⟨w.heap.size, 0, none⟩), .pointer (some ⟨u1.heap.size, 0, none⟩), undef, .slice none 0 0, .pointer (some ⟨u2.heap.size, 0, none⟩), .pointer (some ⟨u4.heap.size, 0, none⟩), .pointer (some ⟨u8.heap.size, 0, none⟩), .int .i64 (x.1 : Int), .pointer (some ⟨p, 0, none⟩), undef, .agg #[.bool true, .int .i64 0, .int .i64 0, .int .i64 0], .agg #[.int .i64 K, .slice A1 n1 c1, .slice A2 n2 c2, .slice A3 n3 c3], .int .i64 0, .bool false, undef, .slice A n c, .int .i64 (n : Int), .slice (some ⟨u7.heap.size, 0, none⟩) 0 n, .agg #[.bool co.d, .int .i64 co.k, .int .i64 co.v, .int .i64 co.s], .slice A n c, .func (.func 34) #[] #[.pointer (some ⟨bi, 0, none⟩), .pointer (some ⟨bl, 0, none⟩)], .int .i64 (x.1 : Int), .agg #[.bool x.2.d, .int .i64 x.2.k, .int .i64 x.2.v, .int .i64 x.2.s], undef, undef, undef, undef, undef, undef, undef, undef, undef, undef, undef, undef, undef, undef, undef, undef, undef, undef, undef, undef, undef, undef, undef, undef, undef, undef], defers := [] }) ?ib ?assign ?body ?done
  case hi =>
    rintro pre W W' row ⟨v, ⟨h, k1⟩, k2⟩ hg hr
    exact ⟨v, ⟨h.from (by omega) hg hr, k1⟩, k2⟩
  case ib =>
    rintro x a' pre W W' row ⟨v, ⟨⟨h, k1⟩, k2⟩, p, hp, np, qp, h7⟩ hgr hrow
    exact ⟨v, ⟨⟨h.from (by omega) hgr hrow, k1⟩, k2⟩, p, hp, np, blk_own qp hgr hrow, h7⟩
  case assign =>
    rintro l pre x args W0 W K ⟨v, ⟨h, k1⟩, k2⟩ hg rfl hpre hsz hK
    obtain ⟨i, x⟩ := x
    simp only [Held.zip_two, List.setIfInBounds_toArray, List.set_cons_zero, List.set_cons_succ]
    dsimp only at hK ⊢
    gi_wp2_with (first
      | (refine Held.wpListIn_one (r := some l) rfl (by intro c e; cases e) ?_; refine wpList_alloc_blk (w := W) rfl 26 rfl _ zero_rec ?_; intro v2 q2 g2 z2; refine wpList_nil ⟨rfl, ?_⟩)
      | (refine Held.wpListIn_one (r := some l) rfl (by intro c e; cases e) ?_; refine wpList_store_blk (w := v2) rfl 26 _ _ rfl W.heap.size 4 rfl 26 _ #[.bool x.d, .int .i64 x.k, .int .i64 x.v, .int .i64 x.s] rfl q2 info_rec rfl rfl (by kernel_rfl) ?_; intro v3 q3 g3 z3; refine wpList_nil ⟨rfl, ?_⟩))
    have b3' : Below W.heap.size W v3 := ((Below.refl _ W).grown g2 (Nat.le_refl _) (by simp)).grown g3 g2.size (fun r e => by cases e; exact Nat.le_refl _)
    have h3 := h.grown (Lib.grownBy_trans hg (grown_of_below b3' none)) (by simp) (by simp) (by simp) (by simp) (by cases v.ownBlock <;> simp) (fun r e => by cases e)
    exact hK _ _ ((Held.others_of_new g2).trans (Held.others_of_grown q2 g3)) (Only.of_below b3') ⟨v, ⟨⟨h3, k1⟩, k2⟩, W.heap.size, Nat.le_trans hsz hg.size, fun e => by have := (h.own.lt _ e).2; have := hg.size; omega, q3, rfl⟩
  case body =>
    rintro l pre ⟨i, x⟩ a' W ⟨v, ⟨⟨H, hvi⟩, hvl⟩, p, hp, np, qp, rfl⟩ hpre hsz
    dsimp only at qp hpre ⊢
    have hx : x.wf := HNW.out (i, x) (hpre.subset (by simp))
    obtain ⟨hso, how, hol⟩ := foldN_wf HFW.out HGW.out pre (RD, []) (fun y hy => HNW.out y (hpre.subset (by simp [hy]))) wf_dead (fun y hy => by cases hy)
    have hol : (foldN (foldV K m f fi) (finishV K m f fi) pre).2.length ≤ 524290 := by
      have e2 := hpre.length_le
      have e3 := HNL.out
      rw [List.length_append, e3] at e2
      simp only [List.length_nil, List.length_cons] at hol e2
      change (foldN (foldV K m f fi) (finishV K m f fi) pre).2.length ≤ _ at hol
      omega
    have hso : (foldN (foldV K m f fi) (finishV K m f fi) pre).1.wf := hso
    have how : ∀ y ∈ (foldN (foldV K m f fi) (finishV K m f fi) pre).2, y.wf := how
    have HNX := Lib.hid (foldN_snoc (F := (foldV K m f fi)) (G := (finishV K m f fi)) pre (i, x))
    generalize hst : foldN (foldV K m f fi) (finishV K m f fi) pre = st at H hso how hol HNX
    obtain ⟨so, out⟩ := st
    dsimp only at H hso how hol
    have hpW := qp.lt
    clear hst hpre
    by_cases hi0 : i = 0
    · have hdec : ((i : Int) == 0) = true := by simp; omega
      have hdec2 : decide (i = 0) = true := by simp; omega
      have hdec3 : decide ((i : Int) = 0) = true := by simp; omega
      have HNX := Lib.hid (HNX.out.trans (by rw [stepP, if_pos hi0]))
      clear hi0
      gi_wp2_with (refine Held.wpListIn_one (r := some l) rfl (by intro c e; cases e) ?_; refine wpList_load_blk (w := W) rfl 26 _ rfl p 4 rfl 26 _ qp _ Try.underlying26 rfl info_rec rfl ?_; refine wpList_nil ⟨rfl, ?_⟩)
      refine ⟨trivial, ?_⟩
      refine (CallsIn.inRound l (callsIn_wide.2 (bare_any x hx W))).mono ?_
      rintro e wa ⟨rfl, ba⟩
      have H := H.after ba
      gi_wp2_with (refine Held.wpListIn_one (r := some l) rfl (by intro c e; cases e) ?_; refine wpList_store_blk (w := wa) rfl 26 _ _ rfl u4.heap.size 4 rfl 26 _ #[.bool (bareR x).d, .int .i64 (bareR x).k, .int .i64 (bareR x).v, .int .i64 (bareR x).s] rfl H.so info_rec rfl rfl (by kernel_rfl) ?_; intro wb qb gb zb; refine wpList_nil ⟨rfl, ?_⟩)
      refine ⟨(Held.others_of_new (grown_of_below ba none)).trans (Held.others_of_grown H.so gb), (Only.of_below ba).trans (Only.of_grown gb (fun r ee => by cases ee; exact .inl rfl)), v, ⟨?_, hvi⟩, hvl⟩
      rw [HNX.out]
      exact H.next ho qb gb
    · have hdec : ((i : Int) == 0) = false := by simp; omega
      have hdec2 : decide (i = 0) = false := by simp; omega
      have hdec3 : decide ((i : Int) = 0) = false := by simp; omega
      have HNX := Lib.hid (HNX.out.trans (by rw [stepP, if_neg hi0]))
      clear hi0
      have hqs := H.so
      gi_wp2_with (first
        | (refine Held.wpListIn_one (r := some l) rfl (by intro c e; cases e) ?_; refine wpList_load_blk (w := W) rfl 26 _ rfl u4.heap.size 4 rfl 26 _ hqs _ Try.underlying26 rfl info_rec rfl ?_; refine wpList_nil ⟨rfl, ?_⟩)
        | (refine Held.wpListIn_one (r := some l) rfl (by intro c e; cases e) ?_; refine wpList_load_blk (w := W) rfl 26 _ rfl p 4 rfl 26 _ qp _ Try.underlying26 rfl info_rec rfl ?_; refine wpList_nil ⟨rfl, ?_⟩))
      refine ⟨trivial, ?_⟩
      refine (CallsIn.inRound l (callsIn_wide.2 (goes_any so x hso hx W))).mono ?_
      rintro e wa ⟨rfl, ba⟩
      have H := H.after ba
      have qp := qp.after ba
      have KO := Held.others_of_new (grown_of_below ba none)
      have U : Only (fun b => b = u4.heap.size ∨ (u7.heap.size ≤ b ∧ b ≠ bi ∧ b ≠ bl)) W wa := Only.of_below ba
      have hu7 : u7.heap.size ≤ W.heap.size := by omega
      clear ba hqs hdec hdec2 hdec3
      gi_wp2_with fail
      refine Held.wpIn_region_barR (r := some l) (s := 9) (T := fun X => X.heap[u8.heap.size]? = some (.cells #[v] 27 (0, 0)) ∧ Blk X w.heap.size 24 #[.int .i64 K, .slice A1 n1 c1, .slice A2 n2 c2, .slice A3 n3 c3] ∧ Blk X u4.heap.size 26 #[.bool so.d, .int .i64 so.k, .int .i64 so.v, .int .i64 so.s]) rfl (by kernel_rfl) (by kernel_rfl) (by intro a w h; exact h) ?_
      change wpAnyB _ _ _ _ _ _ _ _ _ wa.drew
      have D := (Below.refl wa.heap.size wa).drew
      have H := H.after D
      have qp := qp.after D
      have KO := KO.trans (Held.others_of_new (grown_of_below D none))
      have U := U.trans (Only.of_below D)
      clear D
      have T0 : wa.drew.heap[u8.heap.size]? = some (.cells #[v] 27 (0, 0)) ∧ Blk wa.drew w.heap.size 24 #[.int .i64 K, .slice A1 n1 c1, .slice A2 n2 c2, .slice A3 n3 c3] ∧ Blk wa.drew u4.heap.size 26 #[.bool so.d, .int .i64 so.k, .int .i64 so.v, .int .i64 so.s] := ⟨H.var, H.prog, H.so⟩
      refine Held.takeB (v := v) 0 (some 33) [9] rfl rfl (by kernel_rfl) (by kernel_rfl) (by kernel_rfl) (by kernel_rfl) (fun _ _ _ h => h) rfl (Held.y_load rfl rfl (by kernel_rfl) (fun X hX => cell_of_one hX.1)) T0 ?_
      simp only [Act.put, Z1, Z2, Z3]
      refine Held.takeB (v := .int .u64 (oneI (goesB so x))) 1 (some 34) [9] rfl rfl (by kernel_rfl) (by kernel_rfl) (by kernel_rfl) (by kernel_rfl) (fun _ _ _ h => h) rfl (Held.y_move rfl rfl) T0 ?_
      simp only [Act.put, Z1, Z2, Z3]
      refine Held.takeB (v := .agg #[.int .i64 K, .slice A1 n1 c1, .slice A2 n2 c2, .slice A3 n3 c3]) 3 (some 36) [9] rfl rfl (by kernel_rfl) (by kernel_rfl) (by kernel_rfl) (by kernel_rfl) (fun _ _ _ h => h) rfl (Held.y_load_blk (n := 4) rfl rfl Try.underlying24 rfl info_prog rfl (fun X hX => hX.2.1)) T0 ?_
      simp only [Act.put, Z1, Z2, Z3]
      refine Held.takeB (v := .agg #[.bool so.d, .int .i64 so.k, .int .i64 so.v, .int .i64 so.s]) 4 (some 37) [9] rfl rfl (by kernel_rfl) (by kernel_rfl) (by kernel_rfl) (by kernel_rfl) (fun _ _ _ h => h) rfl (Held.y_load_blk (n := 4) rfl rfl Try.underlying26 rfl info_rec rfl (fun X hX => hX.2.2)) T0 ?_
      simp only [Act.put, Z1, Z2, Z3]
      refine Held.oneB 2 (by kernel_rfl) ?_
      refine Held.op_call 2 (some 35) 18 #[] rfl rfl rfl rfl (enters_of Try.func18 (by kernel_rfl) rfl) (by simp)
        (dead_any _) ?_
      rintro e w1 ⟨rfl, b1⟩
      have H := H.after b1
      have qp := qp.after b1
      have KO := KO.trans (Held.others_of_new (grown_of_below b1 none))
      have U := U.trans (Only.of_below b1)
      refine ⟨_, rfl, fun _ => ⟨H.var, H.prog, H.so⟩, ?_⟩
      simp only [Act.put, Z1, Z2, Z3]
      clear b1
      refine Held.oneB 5 (by kernel_rfl) ?_
      refine Held.op_call 5 (some 38) 24 #[.agg #[.int .i64 K, .slice A1 n1 c1, .slice A2 n2 c2, .slice A3 n3 c3], .agg #[.bool so.d, .int .i64 so.k, .int .i64 so.v, .int .i64 so.s]] rfl rfl rfl rfl (enters_of Try.func24 (by kernel_rfl) rfl) (by simp [Act.eval])
        (finished_any B K A1 A2 A3 n1 c1 n2 c2 n3 c3 m f fi so hso _ (h1.below (H.below.mono hB)) (h2.below (H.below.mono hB)) (h3.below (H.below.mono hB)) (Nat.le_trans hB H.below.size)) ?_
      rintro e w2 ⟨rfl, b2⟩
      have H := H.after b2
      have qp := qp.after b2
      have KO := KO.trans (Held.others_of_new (grown_of_below b2 none))
      have U := U.trans (Only.of_below b2)
      refine ⟨_, rfl, fun _ => ⟨H.var, H.prog, H.so⟩, ?_⟩
      simp only [Act.put, Z1, Z2, Z3]
      clear b2
      refine Held.oneB 6 (by kernel_rfl) ?_
      refine Held.op_call 6 (some 39) 23 #[.int .u64 (oneI (goesB so x)), .agg #[.bool true, .int .i64 0, .int .i64 0, .int .i64 0], .agg #[.bool (finR (finishV K m f fi) so).d, .int .i64 (finR (finishV K m f fi) so).k, .int .i64 (finR (finishV K m f fi) so).v, .int .i64 (finR (finishV K m f fi) so).s]] rfl rfl rfl rfl (enters_of Try.func23 (by kernel_rfl) rfl) (by simp [Act.eval])
        (pick_rec (goesB so x) RD (finR (finishV K m f fi) so) (outR (finishV K m f fi) so x) rfl wf_dead (fin_wf HGW.out hso) _) ?_
      rintro e w3 ⟨rfl, b3⟩
      have H := H.after b3
      have qp := qp.after b3
      have KO := KO.trans (Held.others_of_new (grown_of_below b3 none))
      have U := U.trans (Only.of_below b3)
      refine ⟨_, rfl, fun _ => ⟨H.var, H.prog, H.so⟩, ?_⟩
      simp only [Act.put, Z1, Z2, Z3]
      clear b3
      refine Held.oneB 7 (by kernel_rfl) ?_
      refine op_build_lst (k := kRec) 7 (some 40) 27 26 1 _ 32 [outR (finishV K m f fi) so x] rfl rfl rfl rfl Try.underlying27 info_kRec rfl rfl (by kernel_rfl) (by omega) (by decide) ?_
      intro gq w4 qq b4 hq
      have H := H.after b4
      have qp := qp.after b4
      have KO := KO.trans (Held.others_of_new (grown_of_below b4 none))
      have U := U.trans (Only.of_below b4)
      refine ⟨fun _ => ⟨H.var, H.prog, H.so⟩, ?_⟩
      simp only [Act.put, Z1, Z2, Z3]
      clear b4
      have z4 : W.heap.size ≤ w4.heap.size := U.size
      have lq := lst_whole (k := kRec) (xs := [outR (finishV K m f fi) so x]) (n := 1) qq rfl (fun y hy => by rw [List.mem_singleton.1 hy]; exact out_wf HGW.out hso)
      refine Held.oneB 8 (by kernel_rfl) ?_
      refine op_append_all (k := kRec) 8 (some 41) 27 26 rfl rfl rfl rfl Try.underlying27 _ 32 info_kRec rfl u7.heap.size w4.heap.size 1 1 (some ⟨gq, 0, none⟩) v out [outR (finishV K m f fi) so x] rfl rfl H.own lq (by omega) (by omega) (Nat.le_trans hu7 U.size) ?_
      intro v5 w5 o5 g5 n5
      have np5 : v5.ownBlock ≠ some p := fun ee => by
        rcases n5 with n5 | n5
        · exact np (n5.symm.trans ee)
        · have e2 := n5.symm.trans ee; injection e2 with e2; have := qp.lt; omega
      have a5 := H.app ho o5 g5
      have qp5 := qp.grown g5 (fun ee => np ee.symm)
      have KO := KO.trans (others_ownL H.own g5)
      have U := U.trans (Only.of_grown g5 (fun r ee => .inr ⟨(H.own.lt _ ee).1, fun e2 => hvi (e2 ▸ ee), fun e2 => hvl (e2 ▸ ee)⟩))
      refine ⟨fun _ => ⟨a5.1, a5.2.2.2.1, a5.2.1⟩, ?_⟩
      simp only [Act.put, Z1, Z2, Z3]
      refine Held.oneB 9 (by kernel_rfl) ?_
      refine Held.op_store_box 9 none 27 u8.heap.size 27 _ v5 rfl rfl rfl rfl rfl rfl a5.1 (by kernel_rfl) (by obtain ⟨A5, c5, rfl, _⟩ := OwnL.form o5; rfl) (by obtain ⟨A5, c5, rfl, _⟩ := OwnL.form o5; rfl) ?_
      intro w6 l6 g6
      have qp := qp5.grown g6 (by intro ee; injection ee with ee; omega)
      have KO := KO.trans (Held.others_of_grown a5.1 g6)
      have U := U.trans (Only.of_grown g6 (fun r ee => by cases ee; exact .inr ⟨ho.o, hlo.1, hlo.2⟩))
      have H := H.put ho o5 g5 l6 g6
      have hvi5 : v5.ownBlock ≠ some bi := fun ee => by
        rcases n5 with n5 | n5
        · exact hvi (n5.symm.trans ee)
        · have e2 := n5.symm.trans ee; injection e2 with e2; omega
      have hvl5 : v5.ownBlock ≠ some bl := fun ee => by
        rcases n5 with n5 | n5
        · exact hvl (n5.symm.trans ee)
        · have e2 := n5.symm.trans ee; injection e2 with e2; omega
      refine ⟨(fun h => by cases h.symm.trans (show _ = true by kernel_rfl)), ?_⟩
      simp only [Act.put]
      refine doneB (by kernel_rfl) ?_ _
      gi_wp2_with fail
      generalize w6 = wb at *
      refine Held.wpIn_region_barR (r := some l) (s := 8) (T := fun X => Blk X w.heap.size 24 #[.int .i64 K, .slice A1 n1 c1, .slice A2 n2 c2, .slice A3 n3 c3] ∧ Blk X u4.heap.size 26 #[.bool so.d, .int .i64 so.k, .int .i64 so.v, .int .i64 so.s] ∧ Blk X p 26 #[.bool x.d, .int .i64 x.k, .int .i64 x.v, .int .i64 x.s]) rfl (by kernel_rfl) (by kernel_rfl) (by intro a w h; exact h) ?_
      change wpAnyB _ _ _ _ _ _ _ _ _ wb.drew
      have D := (Below.refl wb.heap.size wb).drew
      have H := H.after D
      have qp := qp.after D
      have KO := KO.trans (Held.others_of_new (grown_of_below D none))
      have U := U.trans (Only.of_below D)
      clear D
      have T0 : Blk wb.drew w.heap.size 24 #[.int .i64 K, .slice A1 n1 c1, .slice A2 n2 c2, .slice A3 n3 c3] ∧ Blk wb.drew u4.heap.size 26 #[.bool so.d, .int .i64 so.k, .int .i64 so.v, .int .i64 so.s] ∧ Blk wb.drew p 26 #[.bool x.d, .int .i64 x.k, .int .i64 x.v, .int .i64 x.s] := ⟨H.prog, H.so, qp⟩
      refine Held.takeB (v := .int .u64 (oneI (goesB so x))) 0 (some 42) [8] rfl rfl (by kernel_rfl) (by kernel_rfl) (by kernel_rfl) (by kernel_rfl) (fun _ _ _ h => h) rfl (Held.y_move rfl rfl) T0 ?_
      simp only [Act.put, Z1, Z2, Z3]
      refine Held.takeB (v := .agg #[.int .i64 K, .slice A1 n1 c1, .slice A2 n2 c2, .slice A3 n3 c3]) 1 (some 43) [8] rfl rfl (by kernel_rfl) (by kernel_rfl) (by kernel_rfl) (by kernel_rfl) (fun _ _ _ h => h) rfl (Held.y_load_blk (n := 4) rfl rfl Try.underlying24 rfl info_prog rfl (fun X hX => hX.1)) T0 ?_
      simp only [Act.put, Z1, Z2, Z3]
      refine Held.takeB (v := .agg #[.bool so.d, .int .i64 so.k, .int .i64 so.v, .int .i64 so.s]) 2 (some 44) [8] rfl rfl (by kernel_rfl) (by kernel_rfl) (by kernel_rfl) (by kernel_rfl) (fun _ _ _ h => h) rfl (Held.y_load_blk (n := 4) rfl rfl Try.underlying26 rfl info_rec rfl (fun X hX => hX.2.1)) T0 ?_
      simp only [Act.put, Z1, Z2, Z3]
      refine Held.takeB (v := .agg #[.bool x.d, .int .i64 x.k, .int .i64 x.v, .int .i64 x.s]) 3 (some 45) [8] rfl rfl (by kernel_rfl) (by kernel_rfl) (by kernel_rfl) (by kernel_rfl) (fun _ _ _ h => h) rfl (Held.y_load_blk (n := 4) rfl rfl Try.underlying26 rfl info_rec rfl (fun X hX => hX.2.2)) T0 ?_
      simp only [Act.put, Z1, Z2, Z3]
      refine Held.takeB (v := .agg #[.bool x.d, .int .i64 x.k, .int .i64 x.v, .int .i64 x.s]) 5 (some 47) [8] rfl rfl (by kernel_rfl) (by kernel_rfl) (by kernel_rfl) (by kernel_rfl) (fun _ _ _ h => h) rfl (Held.y_load_blk (n := 4) rfl rfl Try.underlying26 rfl info_rec rfl (fun X hX => hX.2.2)) T0 ?_
      simp only [Act.put, Z1, Z2, Z3]
      refine Held.oneB 4 (by kernel_rfl) ?_
      refine Held.op_call 4 (some 46) 25 #[.agg #[.int .i64 K, .slice A1 n1 c1, .slice A2 n2 c2, .slice A3 n3 c3], .agg #[.bool so.d, .int .i64 so.k, .int .i64 so.v, .int .i64 so.s], .agg #[.bool x.d, .int .i64 x.k, .int .i64 x.v, .int .i64 x.s]] rfl rfl rfl rfl (enters_of Try.func25 (by kernel_rfl) rfl) (by simp [Act.eval])
        (folded_one B K A1 A2 A3 n1 c1 n2 c2 n3 c3 m f fi so x hso hx _ (h1.below (H.below.mono hB)) (h2.below (H.below.mono hB)) (h3.below (H.below.mono hB)) (Nat.le_trans hB H.below.size)) ?_
      rintro e w7 ⟨rfl, b7⟩
      have H := H.after b7
      have qp := qp.after b7
      have KO := KO.trans (Held.others_of_new (grown_of_below b7 none))
      have U := U.trans (Only.of_below b7)
      refine ⟨_, rfl, fun _ => ⟨H.prog, H.so, qp⟩, ?_⟩
      simp only [Act.put, Z1, Z2, Z3]
      clear b7
      refine Held.oneB 6 (by kernel_rfl) ?_
      refine Held.op_call 6 (some 48) 21 #[.agg #[.bool x.d, .int .i64 x.k, .int .i64 x.v, .int .i64 x.s]] rfl rfl rfl rfl (enters_of Try.func21 (by kernel_rfl) rfl) (by simp [Act.eval])
        (bare_any x hx _) ?_
      rintro e w8 ⟨rfl, b8⟩
      have H := H.after b8
      have qp := qp.after b8
      have KO := KO.trans (Held.others_of_new (grown_of_below b8 none))
      have U := U.trans (Only.of_below b8)
      refine ⟨_, rfl, fun _ => ⟨H.prog, H.so, qp⟩, ?_⟩
      simp only [Act.put, Z1, Z2, Z3]
      clear b8
      refine Held.oneB 7 (by kernel_rfl) ?_
      refine Held.op_call 7 (some 49) 23 #[.int .u64 (oneI (goesB so x)), .agg #[.bool (joinR (foldV K m f fi) so x).d, .int .i64 (joinR (foldV K m f fi) so x).k, .int .i64 (joinR (foldV K m f fi) so x).v, .int .i64 (joinR (foldV K m f fi) so x).s], .agg #[.bool (bareR x).d, .int .i64 (bareR x).k, .int .i64 (bareR x).v, .int .i64 (bareR x).s]] rfl rfl rfl rfl (enters_of Try.func23 (by kernel_rfl) rfl) (by simp [Act.eval])
        (pick_rec (goesB so x) (joinR (foldV K m f fi) so x) (bareR x) (nextR (foldV K m f fi) so x) rfl ⟨hso.1, HFW.out _ _ hso.2.1 hx.2.1, rfl⟩ (bare_wf hx) _) ?_
      rintro e w9 ⟨rfl, b9⟩
      have H := H.after b9
      have qp := qp.after b9
      have KO := KO.trans (Held.others_of_new (grown_of_below b9 none))
      have U := U.trans (Only.of_below b9)
      refine ⟨_, rfl, fun _ => ⟨H.prog, H.so, qp⟩, ?_⟩
      simp only [Act.put, Z1, Z2, Z3]
      clear b9
      refine Held.oneB 8 (by kernel_rfl) ?_
      refine Held.op_store_blk 8 none 26 u4.heap.size 4 26 _ #[.bool (nextR (foldV K m f fi) so x).d, .int .i64 (nextR (foldV K m f fi) so x).k, .int .i64 (nextR (foldV K m f fi) so x).v, .int .i64 (nextR (foldV K m f fi) so x).s] rfl rfl rfl rfl rfl rfl H.so info_rec rfl rfl (by kernel_rfl) ?_
      intro w10 qs g10
      have KO := KO.trans (Held.others_of_grown H.so g10)
      have U := U.trans (Only.of_grown g10 (fun r ee => by cases ee; exact .inl rfl))
      have H := H.next ho qs g10
      refine ⟨(fun h => by cases h.symm.trans (show _ = true by kernel_rfl)), ?_⟩
      simp only [Act.put]
      refine doneB (by kernel_rfl) ?_ _
      gi_wp2_with fail
      refine ⟨KO, U, v5, ⟨?_, hvi5⟩, hvl5⟩
      rw [HNX.out]
      exact H
  case done =>
    rintro D W hD ⟨v, ⟨H, hvi⟩, hvl⟩ hDl
    rw [foldN_all] at H
    dsimp only at H
    obtain ⟨so, hso⟩ : ∃ so, ends (foldV K m f fi) (bareR co) rs = so := ⟨_, rfl⟩
    obtain ⟨out, hou⟩ : ∃ out, outs (foldV K m f fi) (finishV K m f fi) (bareR co) rs = out := ⟨_, rfl⟩
    rw [hso, hou] at H
    have HSO := Lib.hid hso
    have HOU := Lib.hid hou
    clear hso hou
    have hlD := (Array.getElem?_eq_some_iff.1 hDl).1
    go_wp2_with fail
    refine wp_mono (Q := fun e a' w' => e = .normal ∧ a' = { tmps := #[.agg #[.int .i64 K, .slice A1 n1 c1, .slice A2 n2 c2, .slice A3 n3 c3], .agg #[.bool co.d, .int .i64 co.k, .int .i64 co.v, .int .i64 co.s], .slice A n c, .pointer (some ⟨w.heap.size, 0, none⟩), .pointer (some ⟨u1.heap.size, 0, none⟩), undef, v, .pointer (some ⟨u2.heap.size, 0, none⟩), .pointer (some ⟨u4.heap.size, 0, none⟩), .pointer (some ⟨u8.heap.size, 0, none⟩), undef, undef, undef, .agg #[.bool true, .int .i64 0, .int .i64 0, .int .i64 0], .agg #[.int .i64 K, .slice A1 n1 c1, .slice A2 n2 c2, .slice A3 n3 c3], .int .i64 0, .bool false, undef, .slice A n c, .int .i64 (n : Int), .slice (some ⟨u7.heap.size, 0, none⟩) 0 n, .agg #[.bool co.d, .int .i64 co.k, .int .i64 co.v, .int .i64 co.s], .slice A n c, .func (.func 34) #[] #[.pointer (some ⟨bi, 0, none⟩), .pointer (some ⟨bl, 0, none⟩)], undef, undef, undef, undef, undef, undef, undef, undef, undef, undef, undef, undef, undef, undef, undef, undef, undef, undef, undef, undef, undef, undef, undef, undef, undef, undef, v, .agg #[.bool so.d, .int .i64 so.k, .int .i64 so.v, .int .i64 so.s]], defers := [{ target := .collected D, args := #[] }] } ∧ Blk w' u2.heap.size 26 #[.bool so.d, .int .i64 so.k, .int .i64 so.v, .int .i64 so.s] ∧ w'.heap[D]? = some (.deferred (some [])) ∧ OwnL kRec 26 w' u7.heap.size v out ∧ Below w.heap.size w w') ?_ ?_
    · refine Held.wp_region_bar (s := 3) (T := fun X => X.heap[u8.heap.size]? = some (.cells #[v] 27 (0, 0)) ∧ Blk X u4.heap.size 26 #[.bool so.d, .int .i64 so.k, .int .i64 so.v, .int .i64 so.s]) (by kernel_rfl) ?_
      change wpAnyB _ _ _ _ _ _ _ _ _ W.drew
      have DB := (Below.refl W.heap.size W).drew
      have H := H.after DB
      have d2 := (DB.block _ hlD).trans hDl
      have T0 : W.drew.heap[u8.heap.size]? = some (.cells #[v] 27 (0, 0)) ∧ Blk W.drew u4.heap.size 26 #[.bool so.d, .int .i64 so.k, .int .i64 so.v, .int .i64 so.s] := ⟨H.var, H.so⟩
      refine Held.takeB (v := v) 0 (some 50) [3] rfl rfl (by kernel_rfl) (by kernel_rfl) (by kernel_rfl) (by kernel_rfl) (fun _ _ _ h => by cases h.1) rfl (Held.y_load rfl rfl (by kernel_rfl) (fun X hX => cell_of_one hX.1)) T0 ?_
      simp only [Act.put, Z1, Z2, Z3]
      refine Held.takeB (v := .agg #[.bool so.d, .int .i64 so.k, .int .i64 so.v, .int .i64 so.s]) 1 (some 51) [3] rfl rfl (by kernel_rfl) (by kernel_rfl) (by kernel_rfl) (by kernel_rfl) (fun _ _ _ h => by cases h.1) rfl (Held.y_load_blk (n := 4) rfl rfl Try.underlying26 rfl info_rec rfl (fun X hX => hX.2)) T0 ?_
      simp only [Act.put, Z1, Z2, Z3]
      refine Held.takeB (v := v) 2 (some 6) [3] rfl rfl (by kernel_rfl) (by kernel_rfl) (by kernel_rfl) (by kernel_rfl) (fun _ _ _ h => by cases h.1) rfl (Held.y_assign rfl rfl) T0 ?_
      simp only [Act.put, Z1, Z2, Z3]
      refine Held.oneB 3 (by kernel_rfl) ?_
      refine Held.op_store_blk 3 none 26 u2.heap.size 4 26 _ #[.bool so.d, .int .i64 so.k, .int .i64 so.v, .int .i64 so.s] rfl rfl rfl rfl rfl rfl H.res info_rec rfl rfl (by kernel_rfl) ?_
      intro w2 qs g2
      have o2 : OwnL kRec 26 w2 u7.heap.size v out := H.own.kept g2 (.inr fun ee => by have := (H.own.lt _ ee).1; omega)
      have bz : Below w.heap.size w w2 := H.below.grown g2 H.below.size (fun r e => by cases e; omega)
      have d2 : w2.heap[D]? = some (.deferred (some [])) := (g2.block D (Nat.lt_of_lt_of_le hlD DB.size) (by intro e; injection e with e; omega)).trans d2
      refine ⟨(fun h => by cases h.symm.trans (show _ = true by kernel_rfl)), ?_⟩
      simp only [Act.put]
      refine doneB (by kernel_rfl) ?_ _
      exact ⟨rfl, rfl, qs, d2, o2, bz⟩
    rintro e a' w2 ⟨rfl, rfl, qs, d2, o2, bz⟩
    have hwD : u11.heap.size ≤ D := hD
    go_wp2_with fail
    refine ⟨by simp, .inl ⟨_, _, rfl, run_takeDeferred d2, ?_⟩⟩
    refine ⟨_, results_tmp_blk rfl _ _ u2.heap.size 4 _ #[.bool so.d, .int .i64 so.k, .int .i64 so.v, .int .i64 so.s] v rfl rfl (qs.grown (grownBy_putObj' _ D _) ?_) _ Try.underlying26 rfl info_rec rfl, ?_⟩
    · intro e; injection e with e; omega
    · rw [HSO.out, HOU.out]
      exact ⟨v, rfl, (o2.kept (grownBy_putObj' _ D _) (.inr fun ee => by
        obtain ⟨cz, hz⟩ := own_obj o2 ee
        rw [d2] at hz
        cases hz)).less (by omega), bz.grown (grownBy_putObj' _ D _) bz.size (fun r e => by cases e; omega)⟩
end Go.Proofs.Ytkiempdpfmolfaa.Cn
namespace Go.Proofs.Ytkiempdpfmolfaa.Cn
open Go.RowKit Go.Shelf Go.Proofs.Ytkiempdpfmolfaa Mem Held Go.Proofs.Ytkiempdpfmolfaa.Range Ct Rc Rs Sl Vm Mg
attribute [local go_sem] Oper.semAt_some
attribute [local irreducible] wpList wpListIn Calls
end Go.Proofs.Ytkiempdpfmolfaa.Cn
namespace Go.Proofs.Ytkiempdpfmolfaa.Cn
open Go.RowKit Go.Shelf Go.Proofs.Ytkiempdpfmolfaa Mem Held Ct Rc Rs Sl Vm Mg
attribute [local irreducible] wpList wpListIn Calls
def OA : O := ⟨2, 0, 0, 1, 0, 0⟩
theorem OA_wf : ∀ o ∈ [OA], o.wf := fun o ho => by rw [List.mem_singleton.1 ho]; exact ⟨rfl, rfl, rfl, rfl, rfl, rfl⟩
theorem sum_check : checkB 1 [] [OA] [] = true := rfl
theorem op_info : (Try.prog.info? 50).map (fun i => (i.zero, i.size, i.bytes)) = some (some (.agg (kO.cells kO.d).toArray), kO.s, 48) := by kernel_rfl
theorem prog_zero : (Try.prog.info? 24).bind (·.zero) = some (.agg #[.int .i64 0, .slice none 0 0, .slice none 0 0, .slice none 0 0]) := by kernel_rfl
set_option maxRecDepth 100000 in
theorem sum_any (w : World) : Calls Try.prog 15 #[] w fun e w' => ∃ g, e = .returned (.agg #[.int .i64 1, .slice none 0 0, .slice (some ⟨g, 0, none⟩) 1 1, .slice none 0 0]) ∧ Blk w' g 50 (Sl.flat kO [OA]).toArray ∧ w.heap.size ≤ g ∧ Below w.heap.size w w' := by
  go_enter Try.func15, Try.ntmps15
  go_wp2_with (first
    | (refine wpList_alloc_blk (w := w) rfl 24 rfl _ prog_zero ?_; intro w1 q1 g1 z1)
    | (refine wpList_build_blk rfl 50 _ rfl #[.int .i64 2, .int .i64 0, .int .i64 0, .int .i64 1, .int .i64 0, .int .i64 0] (by kernel_rfl) ?_)
    | (refine wpList_build_lst (w := w1) (k := kO) rfl 22 50 1 _ rfl Try.underlying22 _ 48 op_info rfl [OA] rfl (by kernel_rfl) (by omega) (by decide) ?_; intro w2 q2 g2 z2; have q1 := q1.grown g2 (by simp))
    | (refine wpList_build_blk rfl 24 _ rfl #[.int .i64 1, .slice none 0 0, .slice (some ⟨w1.heap.size, 0, none⟩) 1 1, .slice none 0 0] (by kernel_rfl) ?_)
    | (refine wpList_store_blk (w := w2) rfl 24 _ _ rfl w.heap.size 4 rfl 24 _ #[.int .i64 1, .slice none 0 0, .slice (some ⟨w1.heap.size, 0, none⟩) 1 1, .slice none 0 0] rfl q1 info_prog rfl rfl (by kernel_rfl) ?_; intro w3 q3 g3 z3))
  have l1 : w.heap.size < w1.heap.size := by have := z1.out; omega
  refine bodyPost_ret (results_blk rfl _ _ w.heap.size 4 _ _ rfl q3 _ Try.underlying24 rfl info_prog rfl) rfl ⟨_, rfl, q2.grown g3 (by intro e; injection e with e; omega), Nat.le_of_lt l1, ?_⟩
  exact (((Below.refl _ w).grown g1 (Nat.le_refl _) (by simp)).grown g2 g1.size (by simp)).grown g3 (Nat.le_trans g1.size g2.size) (fun r e => by cases e; exact Nat.le_refl _)
theorem sum_lst {w : World} {g : Nat} (q : Blk w g 50 (Sl.flat kO [OA]).toArray) : Lst kO w w.heap.size (some ⟨g, 0, none⟩) 1 [OA] := lst_whole q rfl OA_wf
theorem step_sum (g : Nat) (B2 : Nat) (A : Option Addr) (n c : Nat) (co : R) (rs : List R) (w : World) (q : Blk w g 50 (Sl.flat kO [OA]).toArray) (hl : Lst kRec w B2 A n rs) (hB2 : B2 ≤ w.heap.size) (hn : n ≤ 524288) (hco : co.wf) :
    Calls Try.prog 10 #[.agg #[.int .i64 1, .slice none 0 0, .slice (some ⟨g, 0, none⟩) 1 1, .slice none 0 0], .agg #[.bool co.d, .int .i64 co.k, .int .i64 co.v, .int .i64 co.s], .slice A n c] w fun e w' => ∃ v, e = .returned (.tuple #[v, .agg #[.bool (ends (fun a v => wrap64 (a + v)) (bareR co) rs).d, .int .i64 (ends (fun a v => wrap64 (a + v)) (bareR co) rs).k, .int .i64 (ends (fun a v => wrap64 (a + v)) (bareR co) rs).v, .int .i64 (ends (fun a v => wrap64 (a + v)) (bareR co) rs).s]]) ∧ OwnL kRec 26 w' w.heap.size v (outs (fun a v => wrap64 (a + v)) (fun _ v => v) (bareR co) rs) ∧ Below w.heap.size w w' :=
  step_any w.heap.size B2 1 none (some ⟨g, 0, none⟩) none A 0 0 1 1 0 0 n c [] [OA] [] co rs w (Lst.nil _ _ _ _) (sum_lst q) (Lst.nil _ _ _ _) hl (Nat.le_refl _) hB2 hn sum_check hco
theorem addF_wf (a b : Int) (ha : (Lit.int .i64 a).wf = true) (hb : (Lit.int .i64 b).wf = true) : (Lit.int .i64 ((fun a v => wrap64 (a + v)) a b)).wf = true := wrap64_wf _
theorem lastG_wf (a b : Int) (ha : (Lit.int .i64 a).wf = true) (hb : (Lit.int .i64 b).wf = true) : (Lit.int .i64 ((fun (_ v : Int) => v) a b)).wf = true := hb
set_option maxRecDepth 100000 in
set_option maxHeartbeats 4000000 in
theorem awake15_any (w : World) : Calls Try.prog 8 #[] w fun e w' => e = .returned (.bool true) ∧ Below w.heap.size w w' := by
  go_enter Try.func8, Try.ntmps8
  go_wp2_with fail
  refine (sum_any _).mono ?_
  rintro e w1 ⟨g, rfl, q1, hg, b1⟩
  go_wp2_with (first
    | (refine wpList_build_blk rfl 26 #[(0, .const (.bool true))] rfl #[.bool true, .int .i64 0, .int .i64 0, .int .i64 0] (by kernel_rfl) ?_)
    | (refine wpList_build_blk rfl 26 #[(1, .const (.int .i64 1)), (2, .const (.int .i64 5))] rfl #[.bool false, .int .i64 1, .int .i64 5, .int .i64 0] (by kernel_rfl) ?_)
    | (refine wpList_build_blk rfl 26 #[(1, .const (.int .i64 1)), (2, .const (.int .i64 6))] rfl #[.bool false, .int .i64 1, .int .i64 6, .int .i64 0] (by kernel_rfl) ?_)
    | (refine wpList_build_lst (w := w1) (k := kRec) rfl 27 26 3 _ rfl Try.underlying27 _ 32 info_kRec rfl [⟨false, 1, 5, 0⟩, ⟨false, 1, 6, 0⟩, ⟨true, 0, 0, 0⟩] rfl (by kernel_rfl) (by omega) (by decide) ?_; intro w2 q2 g2 z2))
  have b2 : Below w1.heap.size w1 w2 := (Below.refl _ w1).grown g2 (Nat.le_refl _) (by simp)
  have q1 := q1.after b2
  have b2 := b1.trans (b2.mono b1.size)
  have l2 : Lst kRec w2 w2.heap.size (some ⟨w1.heap.size, 0, none⟩) 3 [⟨false, 1, 5, 0⟩, ⟨false, 1, 6, 0⟩, ⟨true, 0, 0, 0⟩] := lst_whole q2 rfl (fun y hy => by
    simp only [List.mem_cons, List.not_mem_nil, or_false] at hy
    rcases hy with rfl | rfl | rfl <;> exact ⟨rfl, rfl, rfl⟩)
  clear g2 z2 q2 b1
  refine (step_sum g w2.heap.size _ 3 3 RD _ w2 q1 l2 (Nat.le_refl _) (by omega) wf_dead).mono ?_
  rintro e w3 ⟨v, rfl, o3, b3⟩
  rw [show outs (fun a v => wrap64 (a + v)) (fun _ v => v) (bareR RD) [⟨false, 1, 5, 0⟩, ⟨false, 1, 6, 0⟩, ⟨true, 0, 0, 0⟩] = [RD, RD, ⟨false, 1, 11, 0⟩] by decide +kernel] at o3
  rw [show ends (fun a v => wrap64 (a + v)) (bareR RD) [⟨false, 1, 5, 0⟩, ⟨false, 1, 6, 0⟩, ⟨true, 0, 0, 0⟩] = RD by decide +kernel]
  have b3 := b2.trans (b3.mono b2.size)
  obtain ⟨A, c, rfl, _⟩ := OwnL.form o3
  have l3 := OwnL.lst o3 (fun y hy => by
    simp only [List.mem_cons, List.not_mem_nil, or_false] at hy
    rcases hy with rfl | rfl | rfl <;> exact ⟨rfl, rfl, rfl⟩)
  obtain ⟨b, off, rfl, hb, hx⟩ := l3.at_ (i := 2) (by decide)
  obtain ⟨b', off', e1, _, hy⟩ := l3.at_ (i := 0) (by decide)
  injection e1 with e1
  injection e1 with e1 e2
  subst e1
  subst e2
  have hx : w3.rangeAt b (off + 2 * 4) [.bool false, .int .i64 1, .int .i64 11, .int .i64 0] := hx
  have cy : w3.cell? ⟨b, off + 0 * 4 + 0, none⟩ = some (.bool true) := hy 0 _ rfl
  have cy2 : w3.cell? ⟨b, off, none⟩ = some (.bool true) := cy
  have hbw := hb
  clear hy l3 l2 q1 b2 o3 cy
  go_wp2_with (first
    | (refine wpList_alloc_blk (w := w3) rfl 26 rfl _ zero_rec ?_; intro w4 q4 g4 z4)
    | (refine wpList_store_blk (w := w4) rfl 26 _ _ rfl w3.heap.size 4 rfl 26 _ #[.bool true, .int .i64 0, .int .i64 0, .int .i64 0] rfl q4 info_rec rfl rfl (by kernel_rfl) ?_; intro w5 q5 g5 z5; have b5 : Below w3.heap.size w3 w5 := ((Below.refl _ w3).grown g4 (Nat.le_refl _) (by simp)).grown g5 g4.size (fun r e => by cases e; exact Nat.le_refl _); have cd := q5.cell (i := 0) rfl; have hx5 := range_below hx b5 hbw; have cy5 := (b5.cell (p := ⟨b, off, none⟩) hbw).trans cy2; clear hx cy2 q4 g4 g5 z4 z5)
    | (refine wpList_run (w := w5) rfl (v := .pointer (some ⟨w3.heap.size, 0, none⟩)) (Held.y_field (S := fun _ => True) (k := 0) (s := 0) rfl rfl Try.underlying26 rfl (by kernel_rfl) rfl _ trivial) ?_)
    | (refine wpList_run (w := w5) rfl (v := .pointer (some ⟨b, off + 2 * 4, none⟩)) (Held.y_addr (S := fun _ => True) rfl rfl rfl (run_addr_of (P := Try.prog) 27 26 b off 3 c 2 4 .i64 Try.underlying27 info_rec (by omega)) _ trivial) ?_)
    | (refine wpList_run (w := w5) rfl (v := .pointer (some ⟨b, off + 0 * 4, none⟩)) (Held.y_addr (S := fun _ => True) rfl rfl rfl (run_addr_of (P := Try.prog) 27 26 b off 3 c 0 4 .i64 Try.underlying27 info_rec (by omega)) _ trivial) ?_)
    | (refine wpList_run (w := w5) rfl (v := .agg #[.bool false, .int .i64 1, .int .i64 11, .int .i64 0]) (y_load_range (S := fun W => W = w5) (n := 4) (cs := [.bool false, .int .i64 1, .int .i64 11, .int .i64 0]) rfl rfl Try.underlying26 rfl info_rec rfl (fun W hW => by rw [hW]; exact hx5) _ rfl) ?_)
    | (refine wpList_run (w := w5) rfl (v := .agg #[.bool false, .int .i64 1, .int .i64 11, .int .i64 0]) (Held.y_build (S := fun _ => True) rfl (by kernel_rfl) _ trivial) ?_)
    | (refine wpList_run (w := w5) rfl (v := .bool true) (y_eqr (S := fun _ => True) rfl rfl rfl (by simp) _ trivial) ?_))
  go_ret
  exact ⟨rfl, b3.trans (b5.mono b3.size)⟩
end Go.Proofs.Ytkiempdpfmolfaa.Cn
namespace Go.Proofs.Ytkiempdpfmolfaa.Mq
open Go.RowKit Sp
def look : List (Int × Int) → Int → Int
  | [], _ => 0
  | p :: l, x => if p.1 = x then p.2 else look l x
theorem look_ins (F : Int → Int → Int) (k v x : Int) : ∀ (l : List (Int × Int)), look (ins F k v l) x = if x = k then (if k ∈ l.map (·.1) then F (look l k) v else v) else look l x
  | [] => by
    by_cases h : x = k
    · simp [ins, look, h]
    · simp [ins, look, h]
      exact fun e => absurd e.symm h
  | p :: l => by
    rw [ins]
    by_cases hp : p.1 = k
    · rw [if_pos hp]
      by_cases hx : x = k
      · subst hx
        simp [look, hp]
      · have hpx : ¬ p.1 = x := fun e => hx (e.symm.trans hp)
        rw [look, if_neg hpx, if_neg hx, look, if_neg hpx]
    · rw [if_neg hp, look, look_ins F k v x l]
      have hkp : ¬ k = p.1 := fun e => hp e.symm
      by_cases hx : x = k
      · subst hx
        rw [if_neg hp, if_pos rfl, if_pos rfl, look, if_neg hp, List.map_cons]
        by_cases hm : x ∈ l.map (·.1)
        · rw [if_pos hm, if_pos (List.mem_cons_of_mem _ hm)]
        · rw [if_neg hm, if_neg (by rw [List.mem_cons]; exact fun e => e.elim hkp hm)]
      · rw [if_neg hx, if_neg hx, look]
def put (k v : Int) (l : List (Int × Int)) : List (Int × Int) := ins (fun _ b => b) k v l
theorem put_keys (k v : Int) (l : List (Int × Int)) : (put k v l).map (·.1) = if k ∈ l.map (·.1) then l.map (·.1) else l.map (·.1) ++ [k] := ins_keys _ k v l
theorem mem_put {k v x : Int} {l : List (Int × Int)} : x ∈ (put k v l).map (·.1) ↔ x = k ∨ x ∈ l.map (·.1) := by
  rw [put_keys]
  split
  · rename_i h
    exact ⟨.inr, fun e => e.elim (fun e => by rw [e]; exact h) id⟩
  · rw [List.mem_append, List.mem_singleton]
    exact ⟨fun e => e.symm, fun e => e.symm⟩
theorem look_put (k v x : Int) (l : List (Int × Int)) : look (put k v l) x = if x = k then v else look l x := by
  rw [put, look_ins]
  split
  · split <;> rfl
  · rfl
theorem put_nodup {k v : Int} {l : List (Int × Int)} (h : (l.map (·.1)).Nodup) : ((put k v l).map (·.1)).Nodup := ins_nodup _ k v l h
def cut (k : Int) (l : List (Int × Int)) : List (Int × Int) := l.filter fun p => !decide (p.1 = k)
theorem cut_keys (k : Int) (l : List (Int × Int)) : (cut k l).map (·.1) = (l.map (·.1)).filter fun x => !decide (x = k) := by
  unfold cut
  rw [List.filter_map]
  rfl
theorem mem_cut {k x : Int} {l : List (Int × Int)} : x ∈ (cut k l).map (·.1) ↔ x ∈ l.map (·.1) ∧ x ≠ k := by
  rw [cut_keys, List.mem_filter]
  simp
theorem cut_nodup {k : Int} {l : List (Int × Int)} (h : (l.map (·.1)).Nodup) : ((cut k l).map (·.1)).Nodup := by
  rw [cut_keys]
  exact List.Pairwise.filter _ h
theorem look_cut (k x : Int) : ∀ l : List (Int × Int), look (cut k l) x = if x = k then 0 else look l x
  | [] => by simp [cut, look]
  | p :: l => by
    have ih := look_cut k x l
    unfold cut at ih ⊢
    rw [List.filter_cons]
    by_cases hp : p.1 = k
    · rw [if_neg (by simp [hp]), ih]
      by_cases hx : x = k
      · rw [if_pos hx, if_pos hx]
      · rw [if_neg hx, if_neg hx, look, if_neg (fun e => hx (e.symm.trans hp))]
    · rw [if_pos (by simp [hp]), look, look]
      by_cases hx : p.1 = x
      · rw [if_pos hx, if_neg (fun e => hp (hx.trans e)), if_pos hx]
      · rw [if_neg hx, if_neg hx, ih]
theorem cut_length {k : Int} : ∀ {l : List (Int × Int)}, (l.map (·.1)).Nodup → (cut k l).length + (if k ∈ l.map (·.1) then 1 else 0) = l.length
  | [], _ => by simp [cut]
  | p :: l, h => by
    rw [List.map_cons, List.nodup_cons] at h
    have ih := cut_length (k := k) h.2
    unfold cut at ih ⊢
    rw [List.filter_cons, List.map_cons]
    by_cases hp : p.1 = k
    · have hk : ¬ k ∈ l.map (·.1) := fun e => h.1 (hp ▸ e)
      rw [if_neg hk] at ih
      rw [if_neg (by simp [hp]), if_pos (List.mem_cons.2 (.inl hp.symm)), List.length_cons]
      omega
    · rw [if_pos (by simp [hp]), List.length_cons, List.length_cons]
      by_cases hk : k ∈ l.map (·.1)
      · rw [if_pos hk] at ih
        rw [if_pos (List.mem_cons_of_mem _ hk)]
        omega
      · rw [if_neg hk] at ih
        rw [if_neg (by rw [List.mem_cons]; exact fun e => e.elim (fun e => hp e.symm) hk)]
        omega
end Go.Proofs.Ytkiempdpfmolfaa.Mq
