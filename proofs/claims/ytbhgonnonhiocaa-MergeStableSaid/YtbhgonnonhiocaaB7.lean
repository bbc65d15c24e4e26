/-
  Package merge's Split and Sorted by their contracts.
  Package record's Take, by its contract.
  A number's eight bytes, numbers' bytes, and a number of bytes, by the document's own, by their contracts: with no other layer.
  Slices cut: s[:h] and s[l:] by their run, and what they read as.
  The document's own Ahead, Before, Pack and Take of records, and the laws' first line, by their contracts.
  The document's own ahead and Sort (dominoref14), by their contracts.
  The document's own Sorted and Split (dominoref14), and what a program that does nothing does not answer, by their contracts.
-/
import Derived.Test.YtbhgonnonhiocaaB6
import Derived.Test.YtbhgonnonhiocaaB3
import Derived.Test.YtbhgonnonhiocaaB1
import Derived.Laws.Slices
import Derived.BigQuiet
set_option linter.unusedVariables false
namespace Go.Proofs.Ytbhgonnonhiocaa.Mg
open Go.RowKit Go.Shelf Go.Proofs.Ytbhgonnonhiocaa Mem Held Ct Rc Rs Sl
attribute [local irreducible] wpList wpListIn Calls
theorem info_lists : (Try.prog.info? 22).map (fun i => (i.zero, i.size, i.bytes)) = some (some (.slice none 0 0), 1, 24) := by kernel_rfl
theorem wpList_build_two {ops : Array Oper} {rest : List Oper} {o : Oper} {a : Act} {w : World} {Q : Exit → Act → World → Prop} (hgd : o.guard = none) (x y : Operand) (ho : o.op = .buildSlice 36 2 #[(0, x), (1, y)]) (A A2 : Option Addr) (n c n2 c2 : Nat) (hx : a.eval x = .slice A n c) (hy : a.eval y = .slice A2 n2 c2)
    (h : ∀ w', Blk w' w.heap.size 22 #[.slice A n c, .slice A2 n2 c2] → w.grownBy w' none → wpList Try.prog ops Q rest (a.put o.dst (.slice (some ⟨w.heap.size, 0, none⟩) 2 2)) w') : wpList Try.prog ops Q (o :: rest) a w := by
  obtain ⟨ie, hie, hz, hs, _⟩ := info_parts info_lists
  refine Go.wpList_buildSlice hgd 36 22 2 #[(0, x), (1, y)] ho #[.slice A n c, .slice A2 n2 c2] ie _ Try.underlying36 hie hz (by rw [hs]; omega) (by rw [hs]; omega) ?_ (h _ (heap_alloc_new w _) (World.grownBy_alloc w _ none))
  rw [hs]
  simp only [List.map_toArray, List.map_cons, List.map_nil, hx, hy]
  refine (Great.fill_whole (s := 1) (by omega) [.slice A n c, .slice A2 n2 c2] _ (fun v hv => ?_) (by simp)).trans ?_
  · simp only [List.mem_cons, List.not_mem_nil, or_false] at hv
    rcases hv with rfl | rfl <;> rfl
  · rfl
set_option maxRecDepth 100000 in
set_option maxHeartbeats 8000000 in
theorem split_any (B B2 : Nat) (A A2 : Option Addr) (n c n2 c2 : Nat) (rs rs2 : List R) (seq : Bool) (w : World) (h : Lst kRec w B A n rs) (h2 : Lst kRec w B2 A2 n2 rs2) (hB : B ≤ w.heap.size) (hB2 : B2 ≤ w.heap.size) (hn : n ≤ 524288) (hn2 : n2 ≤ 524288) :
    Calls Try.prog 10 #[.slice A n c, .slice A2 n2 c2, .bool seq] w fun e w' => ∃ v v2, e = .returned (.tuple #[v, v2]) ∧ OwnL kRec 26 w' w.heap.size v ((sortR seq (rs ++ rs2)).take rs.length) ∧ OwnL kRec 26 w' w.heap.size v2 ((sortR seq (rs ++ rs2)).drop rs.length) ∧ Below w.heap.size w w' := by
  have HL := Lib.hid h.1
  have HLS := Lib.hid (show (rs ++ rs2).length = n + n2 by rw [List.length_append, h.1, h2.1])
  have HLT := Lib.hid (show (sortR seq (rs ++ rs2)).length = n + n2 by rw [sortR_length, List.length_append, h.1, h2.1])
  have HW := Lib.hid (show ∀ x ∈ rs ++ rs2, x.wf from fun x hx => (List.mem_append.1 hx).elim (h.2.1 x) (h2.2.1 x))
  have HWS := Lib.hid (show ∀ x ∈ sortR seq (rs ++ rs2), x.wf from fun x hx => HW.out x ((sortR_perm seq (rs ++ rs2)).mem_iff.1 hx))
  go_enter Try.func10, Try.ntmps10
  go_wp2_with (refine wpList_build_two (w := w) rfl _ _ rfl A A2 n c n2 c2 rfl rfl ?_; intro w1 q1 g1)
  have b1 : Below w.heap.size w w1 := (Below.refl _ w).grown g1 (Nat.le_refl _) (by simp)
  refine (concat_any B B2 w.heap.size A A2 n c n2 c2 rs rs2 w1 q1 (Lst.below h (b1.mono hB)) (Lst.below h2 (b1.mono hB2)) (Nat.le_trans hB b1.size) (Nat.le_trans hB2 b1.size) hn hn2).mono ?_
  rintro e w2 ⟨v, rfl, o2, b2⟩
  obtain ⟨A3, n3, c3, rfl, hn3, _⟩ := OwnL.form2 o2
  obtain rfl : n3 = n + n2 := hn3.out.symm.trans HLS.out
  have b2 := b1.trans (b2.mono b1.size)
  clear b1 q1 g1 hn3
  have l2 := OwnL.lst o2 HW.out
  go_wp2_with fail
  refine (sort_any w2.heap.size A3 (n + n2) c3 (rs ++ rs2) seq w2 l2 (Nat.le_refl _) (by omega)).mono ?_
  rintro e w3 ⟨v, rfl, o3, b3⟩
  obtain ⟨A4, n4, c4, rfl, hn4, _⟩ := OwnL.form2 o3
  obtain rfl : n4 = n + n2 := hn4.out.symm.trans HLT.out
  have b3 := b2.trans (b3.mono b2.size)
  have o3 := OwnL.less o3 b2.size
  clear b2 o2 l2 hn4
  obtain ⟨A5, A6, c6, f1, f2, k1, k2⟩ := own_parts o3 HWS.out (show n ≤ n + n2 by omega)
  rw [show n + n2 - n = n2 by omega] at f2 k2
  go_wp2_with fail
  refine wp_region_held (S := fun W => Below w3.heap.size w3 W) (by kernel_rfl) ?_
  change wpAnyH _ _ _ _ _ _ _ _ w3.drew
  have c0_0 := (Below.refl w3.heap.size w3).drew
  refine Held.tk (v := .slice A4 (n + n2) c4) 0 (some 15) rfl (Held.y_move rfl rfl) c0_0 ?_
  simp only [Act.put, Z1, Z2, Z3]
  refine Held.tk (v := .slice A n c) 1 (some 16) rfl (Held.y_move rfl rfl) c0_0 ?_
  simp only [Act.put, Z1, Z2, Z3]
  refine Held.tk (v := .int .i64 (n : Int)) 2 (some 17) rfl (Held.y_len rfl rfl Try.underlying22) c0_0 ?_
  simp only [Act.put, Z1, Z2, Z3]
  refine Held.tk (v := .slice A5 n c4) 3 (some 18) rfl (Held.y_slice rfl f1) c0_0 ?_
  simp only [Act.put, Z1, Z2, Z3]
  refine Held.tk (v := .slice A4 (n + n2) c4) 5 (some 20) rfl (Held.y_move rfl rfl) c0_0 ?_
  simp only [Act.put, Z1, Z2, Z3]
  refine Held.tk (v := .slice A n c) 6 (some 21) rfl (Held.y_move rfl rfl) c0_0 ?_
  simp only [Act.put, Z1, Z2, Z3]
  refine Held.tk (v := .int .i64 (n : Int)) 7 (some 22) rfl (Held.y_len rfl rfl Try.underlying22) c0_0 ?_
  simp only [Act.put, Z1, Z2, Z3]
  refine Held.tk (v := .slice A6 n2 c6) 8 (some 23) rfl (Held.y_slice rfl f2) c0_0 ?_
  simp only [Act.put, Z1, Z2, Z3]
  refine Held.one 4 (by kernel_rfl) ?_
  refine Held.op_call 4 (some 19) 24 #[.slice A5 n c4] rfl rfl rfl rfl (enters_of Try.func24 (by kernel_rfl) rfl) (by simp [Act.eval])
    (clone_any w3.heap.size A5 n c4 _ _ (Lst.below k1 c0_0) c0_0.size (by omega)) ?_
  rintro e w4 ⟨v1, rfl, ov1, b1⟩
  have c0_1 := c0_0.trans (b1.mono c0_0.size)
  refine ⟨_, rfl, c0_1, ?_⟩
  simp only [Act.put, Z1, Z2, Z3]
  refine Held.one 9 (by kernel_rfl) ?_
  refine Held.op_call 9 (some 24) 24 #[.slice A6 n2 c6] rfl rfl rfl rfl (enters_of Try.func24 (by kernel_rfl) rfl) (by simp [Act.eval])
    (clone_any w3.heap.size A6 n2 c6 _ _ (Lst.below k2 c0_1) c0_1.size (by omega)) ?_
  rintro e w5 ⟨v2, rfl, ov2, b2⟩
  have c0_2 := c0_1.trans (b2.mono c0_1.size)
  refine ⟨_, rfl, c0_2, ?_⟩
  simp only [Act.put, Z1, Z2, Z3]
  refine Held.tk (v := v1) 10 (some 6) rfl (Held.y_assign rfl rfl) c0_2 ?_
  simp only [Act.put, Z1, Z2, Z3]
  refine Held.tk (v := v2) 11 (some 7) rfl (Held.y_assign rfl rfl) c0_2 ?_
  simp only [Act.put, Z1, Z2, Z3]
  have p1 := OwnL.less (OwnL.below ov1 b2) (Nat.le_refl _)
  have p2 := OwnL.less ov2 b1.size
  refine wpAnyH_done (by kernel_rfl) ?_ _
  have dz := b3.trans (c0_2.mono b3.size)
  go_wp2_with fail
  go_ret2
  rw [HL.out]
  exact ⟨_, _, rfl, OwnL.less p1 (Nat.le_trans b3.size c0_0.size), OwnL.less p2 (Nat.le_trans b3.size c0_0.size), dz⟩
end Go.Proofs.Ytbhgonnonhiocaa.Mg
namespace Go.Proofs.Ytbhgonnonhiocaa.Rc
open Go.RowKit Go.Shelf Go.Proofs.Ytbhgonnonhiocaa Mem Help Go.Proofs.Ytbhgonnonhiocaa.Sum Po Ky Ct Go.Proofs.Ytbhgonnonhiocaa.Bit Held Go.Proofs.Ytbhgonnonhiocaa.Range
attribute [local go_sem] Oper.semAt_some
attribute [local irreducible] wpList wpListIn Calls
def fld (zs : List Int) (i : Nat) : Int := val ((zs.drop (8 * i)).take 8)
def noneC : Array Value := #[.bool false, .int .i64 0, .int .i64 0, .int .i64 0]
def flds (zs : List Int) : List Int := [fld zs 0, fld zs 1, fld zs 2, fld zs 3]
def TInv (w : World) (gr gn : Nat) (zs : List Int) (pre : List Nat) (W : World) : Prop :=
  Row W gn 63 .u64 (blend (flds zs) (List.replicate 4 0) pre.length) ∧ Blk W gr 26 noneC ∧ Below w.heap.size w W
theorem TInv.own (w : World) (gr gn : Nat) (zs : List Int) {B : Nat} (hB : w.heap.size ≤ B) : OwnFrom B (TInv w gr gn zs) := fun pre W W' row ⟨h1, h2, h4⟩ hg hr =>
  ⟨row_own h1 hg hr, blk_own h2 hg hr, h4.grown hg h4.size (fun r e => Nat.le_trans hB (hr r e).1)⟩
end Go.Proofs.Ytbhgonnonhiocaa.Rc
namespace Go.Proofs.Ytbhgonnonhiocaa.Rc
open Go.RowKit Go.Shelf Go.Proofs.Ytbhgonnonhiocaa Mem Help Go.Proofs.Ytbhgonnonhiocaa.Sum Po Ky Held
attribute [local irreducible] wpList wpListIn Calls
end Go.Proofs.Ytbhgonnonhiocaa.Rc
namespace Go.Proofs.Ytbhgonnonhiocaa.Mem
open Go.RowKit
def Flat (A : Option Addr) (cap : Nat) : Prop := cap = 0 ∨ A = none ∨ ∃ b off, A = some ⟨b, off, none⟩
theorem Flat.head (b off cap : Nat) : Flat (some ⟨b, off, none⟩) cap := .inr (.inr ⟨b, off, rfl⟩)
section
variable {P : Program} {t e : TypeId} {A : Option Addr} {n cap : Nat}
end
theorem Own.flat {w : World} {base : Nat} {t : TypeId} {k : IntKind} {A : Option Addr} {n c : Nat} {zs : List Int} (h : Own w base t k (.slice A n c) zs) : Flat A c := by
  rcases h.2.2 with ⟨hv, _⟩ | ⟨g, cap, cur, hv, _⟩
  · injection hv with e1; exact .inr (.inl e1)
  · injection hv with e1; exact .inr (.inr ⟨g, 0, e1⟩)
end Go.Proofs.Ytbhgonnonhiocaa.Mem
namespace Go.Proofs.Ytbhgonnonhiocaa.Rc
open Go.RowKit Go.Shelf Go.Proofs.Ytbhgonnonhiocaa Mem Help Go.Proofs.Ytbhgonnonhiocaa.Sum Po Ky Ct Go.Proofs.Ytbhgonnonhiocaa.Bit Held
attribute [local irreducible] wpList wpListIn Calls
end Go.Proofs.Ytbhgonnonhiocaa.Rc
namespace Go.Proofs.Ytbhgonnonhiocaa.Mg
open Go.RowKit Go.Shelf Go.Proofs.Ytbhgonnonhiocaa Mem Held Ct Rc Rs Sl
attribute [local irreducible] wpList wpListIn Calls
section
variable {α : Type} {k : St α} {P : Program} {ops : Array Oper} {o : Oper} {a : Act} {w : World} {Q : Exit → Act → World → Prop}
end
end Go.Proofs.Ytbhgonnonhiocaa.Mg
namespace Go.Proofs.Ytbhgonnonhiocaa.Mg
open Go.RowKit Go.Shelf Go.Proofs.Ytbhgonnonhiocaa Mem Held Ct Rc Rs Sl
attribute [local irreducible] wpList wpListIn Calls
theorem wpList_build_recL {ops : Array Oper} {rest : List Oper} {o : Oper} {a : Act} {w : World} {Q : Exit → Act → World → Prop} (hgd : o.guard = none) (y : Operand) (ho : o.op = .buildSlice 22 1 #[(0, y)]) (f : R) (hy : a.eval y = .agg #[.bool f.d, .int .i64 f.k, .int .i64 f.v, .int .i64 f.s]) (hf : f.wf)
    (h : ∀ w', Lst kRec w' w'.heap.size (some ⟨w.heap.size, 0, none⟩) 1 [f] → w.grownBy w' none → wpList Try.prog ops Q rest (a.put o.dst (.slice (some ⟨w.heap.size, 0, none⟩) 1 1)) w') : wpList Try.prog ops Q (o :: rest) a w :=
  wpList_build_rec hgd y ho f hy fun w' q g _ => h w' (lst_whole (k := kRec) q rfl (fun y hy => by rw [List.mem_singleton.1 hy]; exact hf)) g
set_option maxRecDepth 100000 in
set_option maxHeartbeats 8000000 in
theorem awake14_any (w : World) : Calls Try.prog 8 #[] w fun e w' => e = .returned (.bool true) ∧ Below w.heap.size w w' := by
  go_enter Try.func8, Try.ntmps8
  go_wp2_with (first
    | (refine wpList_build_blk rfl 26 #[(1, .const (.int .i64 3))] rfl #[.bool false, .int .i64 3, .int .i64 0, .int .i64 0] (by kernel_rfl) ?_)
    | (refine wpList_build_blk rfl 26 #[(1, .const (.int .i64 1))] rfl #[.bool false, .int .i64 1, .int .i64 0, .int .i64 0] (by kernel_rfl) ?_)
    | (refine wpList_build_recL (w := w) rfl _ rfl ⟨false, 3, 0, 0⟩ rfl ⟨rfl, rfl, rfl⟩ ?_; intro w1 l1 g1)
    | (refine wpList_build_recL (w := w1) rfl _ rfl ⟨false, 1, 0, 0⟩ rfl ⟨rfl, rfl, rfl⟩ ?_; intro w2 l2 g2))
  have b1 : Below w.heap.size w w1 := (Below.refl _ w).grown g1 (Nat.le_refl _) (by simp)
  have b2 : Below w1.heap.size w1 w2 := (Below.refl _ w1).grown g2 (Nat.le_refl _) (by simp)
  refine (split_any w1.heap.size w2.heap.size _ _ 1 1 1 1 _ _ true w2 (Lst.below l1 b2) l2 b2.size (Nat.le_refl _) (by omega) (by omega)).mono ?_
  rintro e w3 ⟨v, v2, rfl, o1, o2, b3⟩
  have b3 := (b1.trans (b2.mono b1.size)).trans (b3.mono (Nat.le_trans b1.size b2.size))
  have e1 : (sortR true ([⟨false, 3, 0, 0⟩] ++ [⟨false, 1, 0, 0⟩])).take [(⟨false, 3, 0, 0⟩ : R)].length = [⟨false, 1, 0, 0⟩] := by decide +kernel
  have e2 : (sortR true ([⟨false, 3, 0, 0⟩] ++ [⟨false, 1, 0, 0⟩])).drop [(⟨false, 3, 0, 0⟩ : R)].length = [⟨false, 3, 0, 0⟩] := by decide +kernel
  rw [e1] at o1
  rw [e2] at o2
  obtain ⟨A, c, rfl, _⟩ := OwnL.form o1
  obtain ⟨A2, c2, rfl, _⟩ := OwnL.form o2
  obtain ⟨b, off, rfl, _, hx⟩ := (OwnL.lst o1 (fun y hy => by rw [List.mem_singleton.1 hy]; exact ⟨rfl, rfl, rfl⟩)).at_ (i := 0) (by decide)
  obtain ⟨b', off', rfl, _, hy⟩ := (OwnL.lst o2 (fun y hy => by rw [List.mem_singleton.1 hy]; exact ⟨rfl, rfl, rfl⟩)).at_ (i := 0) (by decide)
  have cx : w3.cell? ⟨b, off + 1, none⟩ = some (.int .i64 1) := hx 1 _ rfl
  have cy : w3.cell? ⟨b', off' + 1, none⟩ = some (.int .i64 3) := hy 1 _ rfl
  clear hx hy o1 o2 e1 e2 l1 l2
  go_wp2_with (first
    | (refine Held.wpList_run (w := w3) rfl (v := .pointer (some ⟨b, off + 0 * 4, none⟩)) (Held.y_addr (S := fun _ => True) rfl rfl rfl (run_addr_of 22 26 b off 1 c 0 4 .i64 Try.underlying22 (by kernel_rfl) (by omega)) _ trivial) ?_)
    | (refine Held.wpList_run (w := w3) rfl (v := .pointer (some ⟨b', off' + 0 * 4, none⟩)) (Held.y_addr (S := fun _ => True) rfl rfl rfl (run_addr_of 22 26 b' off' 1 c2 0 4 .i64 Try.underlying22 (by kernel_rfl) (by omega)) _ trivial) ?_))
  go_ret
  exact ⟨rfl, b3⟩
end Go.Proofs.Ytbhgonnonhiocaa.Mg
