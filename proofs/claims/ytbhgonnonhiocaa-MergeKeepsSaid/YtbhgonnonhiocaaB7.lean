/-
  Package merge's Split and Sorted by their contracts.
  Package record's Take, by its contract.
  A number's eight bytes, numbers' bytes, and a number of bytes, by the document's own, by their contracts: with no other layer.
  Slices cut: s[:h] and s[l:] by their run, and what they read as.
  The document's own Ahead, Before, Pack and Take of records, and the laws' first line, by their contracts.
  The document's own ahead and Sort (dominoref14), by their contracts.
  The document's own Sorted and Split (dominoref14), and what a program that does nothing does not answer, by their contracts.
  A map from records to numbers that a call makes, read as a function (0 where there is no entry): made, looked up, one entry turned in place; that every entry is handed out by a range: no program here but types.
  What the frame of a proof says of a list of records that came in.
-/
import Derived.Test.YtbhgonnonhiocaaB6
import Derived.Test.YtbhgonnonhiocaaB3
import Derived.Test.YtbhgonnonhiocaaB1
import Derived.Laws.Slices
import Derived.BigQuiet
import Derived.DeepKeys3
import Derived.WideKeyEntry
import Derived.Maps.OwnSet
import Derived.Maps.RangeWalk
import Derived.Test.YtbhgonnonhiocaaB4
import Derived.WideShapes
import Derived.ChangeArms
set_option linter.unusedVariables false
namespace Go.Proofs.Ytbhgonnonhiocaa.Mg
open Go.RowKit Go.Shelf Go.Proofs.Ytbhgonnonhiocaa Mem Held Ct Rc Rs Sl
attribute [local irreducible] wpList wpListIn Calls
theorem info_lists : (Try.prog.info? 22).map (fun i => (i.zero, i.size, i.bytes)) = some (some (.slice none 0 0), 1, 24) := by kernel_rfl
theorem wpList_build_two {ops : Array Oper} {rest : List Oper} {o : Oper} {a : Act} {w : World} {Q : Exit → Act → World → Prop} (hgd : o.guard = none) (x y : Operand) (ho : o.op = .buildSlice 36 2 #[(0, x), (1, y)]) (A A2 : Option Addr) (n c n2 c2 : Nat) (hx : a.eval x = .slice A n c) (hy : a.eval y = .slice A2 n2 c2)
    (h : ∀ w', Blk w' w.heap.size 22 #[.slice A n c, .slice A2 n2 c2] → w.grownBy w' none → wpList Try.prog ops Q rest (a.put o.dst (.slice (some ⟨w.heap.size, 0, none⟩) 2 2)) w') : wpList Try.prog ops Q (o :: rest) a w := by
  obtain ⟨ie, hie, hz, hs, _⟩ := info_parts info_lists
  refine Go.wpList_buildSlice hgd 36 22 2 #[(0, x), (1, y)] ho #[.slice A n c, .slice A2 n2 c2] ie _ Try.underlying36 hie hz (by rw [hs]; omega) (by rw [hs]; omega) ?_ (h _ (heap_alloc_new w _) (World.grownBy_alloc w _ none))
  rw [hs]
  simp only [List.map_toArray, List.map_cons, List.map_nil, hx, hy]
  refine (Great.fill_whole (s := 1) (by omega) [.slice A n c, .slice A2 n2 c2] _ (fun v hv => ?_) (by simp)).trans ?_
  · simp only [List.mem_cons, List.not_mem_nil, or_false] at hv
    rcases hv with rfl | rfl <;> rfl
  · rfl
set_option maxRecDepth 100000 in
set_option maxHeartbeats 8000000 in
theorem split_any (B B2 : Nat) (A A2 : Option Addr) (n c n2 c2 : Nat) (rs rs2 : List R) (seq : Bool) (w : World) (h : Lst kRec w B A n rs) (h2 : Lst kRec w B2 A2 n2 rs2) (hB : B ≤ w.heap.size) (hB2 : B2 ≤ w.heap.size) (hn : n ≤ 524288) (hn2 : n2 ≤ 524288) :
    Calls Try.prog 10 #[.slice A n c, .slice A2 n2 c2, .bool seq] w fun e w' => ∃ v v2, e = .returned (.tuple #[v, v2]) ∧ OwnL kRec 26 w' w.heap.size v ((sortR seq (rs ++ rs2)).take rs.length) ∧ OwnL kRec 26 w' w.heap.size v2 ((sortR seq (rs ++ rs2)).drop rs.length) ∧ Below w.heap.size w w' := by
  have HL := Lib.hid h.1
  have HLS := Lib.hid (show (rs ++ rs2).length = n + n2 by rw [List.length_append, h.1, h2.1])
  have HLT := Lib.hid (show (sortR seq (rs ++ rs2)).length = n + n2 by rw [sortR_length, List.length_append, h.1, h2.1])
  have HW := Lib.hid (show ∀ x ∈ rs ++ rs2, x.wf from fun x hx => (List.mem_append.1 hx).elim (h.2.1 x) (h2.2.1 x))
  have HWS := Lib.hid (show ∀ x ∈ sortR seq (rs ++ rs2), x.wf from fun x hx => HW.out x ((sortR_perm seq (rs ++ rs2)).mem_iff.1 hx))
  go_enter Try.func10, Try.ntmps10
  go_wp2_with (refine wpList_build_two (w := w) rfl _ _ rfl A A2 n c n2 c2 rfl rfl ?_; intro w1 q1 g1)
  have b1 : Below w.heap.size w w1 := (Below.refl _ w).grown g1 (Nat.le_refl _) (by simp)
  refine (concat_any B B2 w.heap.size A A2 n c n2 c2 rs rs2 w1 q1 (Lst.below h (b1.mono hB)) (Lst.below h2 (b1.mono hB2)) (Nat.le_trans hB b1.size) (Nat.le_trans hB2 b1.size) hn hn2).mono ?_
  rintro e w2 ⟨v, rfl, o2, b2⟩
  obtain ⟨A3, n3, c3, rfl, hn3, _⟩ := OwnL.form2 o2
  obtain rfl : n3 = n + n2 := hn3.out.symm.trans HLS.out
  have b2 := b1.trans (b2.mono b1.size)
  clear b1 q1 g1 hn3
  have l2 := OwnL.lst o2 HW.out
  go_wp2_with fail
  refine (sort_any w2.heap.size A3 (n + n2) c3 (rs ++ rs2) seq w2 l2 (Nat.le_refl _) (by omega)).mono ?_
  rintro e w3 ⟨v, rfl, o3, b3⟩
  obtain ⟨A4, n4, c4, rfl, hn4, _⟩ := OwnL.form2 o3
  obtain rfl : n4 = n + n2 := hn4.out.symm.trans HLT.out
  have b3 := b2.trans (b3.mono b2.size)
  have o3 := OwnL.less o3 b2.size
  clear b2 o2 l2 hn4
  obtain ⟨A5, A6, c6, f1, f2, k1, k2⟩ := own_parts o3 HWS.out (show n ≤ n + n2 by omega)
  rw [show n + n2 - n = n2 by omega] at f2 k2
  go_wp2_with fail
  refine wp_region_held (S := fun W => Below w3.heap.size w3 W) (by kernel_rfl) ?_
  change wpAnyH _ _ _ _ _ _ _ _ w3.drew
  have c0_0 := (Below.refl w3.heap.size w3).drew
  refine Held.tk (v := .slice A4 (n + n2) c4) 0 (some 15) rfl (Held.y_move rfl rfl) c0_0 ?_
  simp only [Act.put, Z1, Z2, Z3]
  refine Held.tk (v := .slice A n c) 1 (some 16) rfl (Held.y_move rfl rfl) c0_0 ?_
  simp only [Act.put, Z1, Z2, Z3]
  refine Held.tk (v := .int .i64 (n : Int)) 2 (some 17) rfl (Held.y_len rfl rfl Try.underlying22) c0_0 ?_
  simp only [Act.put, Z1, Z2, Z3]
  refine Held.tk (v := .slice A5 n c4) 3 (some 18) rfl (Held.y_slice rfl f1) c0_0 ?_
  simp only [Act.put, Z1, Z2, Z3]
  refine Held.tk (v := .slice A4 (n + n2) c4) 5 (some 20) rfl (Held.y_move rfl rfl) c0_0 ?_
  simp only [Act.put, Z1, Z2, Z3]
  refine Held.tk (v := .slice A n c) 6 (some 21) rfl (Held.y_move rfl rfl) c0_0 ?_
  simp only [Act.put, Z1, Z2, Z3]
  refine Held.tk (v := .int .i64 (n : Int)) 7 (some 22) rfl (Held.y_len rfl rfl Try.underlying22) c0_0 ?_
  simp only [Act.put, Z1, Z2, Z3]
  refine Held.tk (v := .slice A6 n2 c6) 8 (some 23) rfl (Held.y_slice rfl f2) c0_0 ?_
  simp only [Act.put, Z1, Z2, Z3]
  refine Held.one 4 (by kernel_rfl) ?_
  refine Held.op_call 4 (some 19) 24 #[.slice A5 n c4] rfl rfl rfl rfl (enters_of Try.func24 (by kernel_rfl) rfl) (by simp [Act.eval])
    (clone_any w3.heap.size A5 n c4 _ _ (Lst.below k1 c0_0) c0_0.size (by omega)) ?_
  rintro e w4 ⟨v1, rfl, ov1, b1⟩
  have c0_1 := c0_0.trans (b1.mono c0_0.size)
  refine ⟨_, rfl, c0_1, ?_⟩
  simp only [Act.put, Z1, Z2, Z3]
  refine Held.one 9 (by kernel_rfl) ?_
  refine Held.op_call 9 (some 24) 24 #[.slice A6 n2 c6] rfl rfl rfl rfl (enters_of Try.func24 (by kernel_rfl) rfl) (by simp [Act.eval])
    (clone_any w3.heap.size A6 n2 c6 _ _ (Lst.below k2 c0_1) c0_1.size (by omega)) ?_
  rintro e w5 ⟨v2, rfl, ov2, b2⟩
  have c0_2 := c0_1.trans (b2.mono c0_1.size)
  refine ⟨_, rfl, c0_2, ?_⟩
  simp only [Act.put, Z1, Z2, Z3]
  refine Held.tk (v := v1) 10 (some 6) rfl (Held.y_assign rfl rfl) c0_2 ?_
  simp only [Act.put, Z1, Z2, Z3]
  refine Held.tk (v := v2) 11 (some 7) rfl (Held.y_assign rfl rfl) c0_2 ?_
  simp only [Act.put, Z1, Z2, Z3]
  have p1 := OwnL.less (OwnL.below ov1 b2) (Nat.le_refl _)
  have p2 := OwnL.less ov2 b1.size
  refine wpAnyH_done (by kernel_rfl) ?_ _
  have dz := b3.trans (c0_2.mono b3.size)
  go_wp2_with fail
  go_ret2
  rw [HL.out]
  exact ⟨_, _, rfl, OwnL.less p1 (Nat.le_trans b3.size c0_0.size), OwnL.less p2 (Nat.le_trans b3.size c0_0.size), dz⟩
def wrongTo (seq : Bool) (rs : List R) (k : Nat) : Bool := (List.range k).any fun i => lead seq (rs.getD (i + 1) R0) (rs.getD i R0)
theorem wrongTo_succ (seq : Bool) (rs : List R) (k : Nat) : wrongTo seq rs (k + 1) = (wrongTo seq rs k || lead seq (rs.getD (k + 1) R0) (rs.getD k R0)) := by
  unfold wrongTo
  rw [List.range_succ, List.any_append]
  simp
def srtB (seq : Bool) (rs : List R) : Bool := !wrongTo seq rs (rs.length - 1)
theorem srtB_iff {seq : Bool} {rs : List R} : srtB seq rs = true ↔ Srt seq rs := by
  rw [srt_iff, srtB, Bool.not_eq_true', wrongTo, List.any_eq_false]
  constructor
  · intro h i hi
    have := h i (List.mem_range.2 (by omega))
    simpa using this
  · intro h i hi
    have := h i (by have := List.mem_range.1 hi; omega)
    rw [this]
    simp
set_option maxRecDepth 100000 in
set_option maxHeartbeats 8000000 in
theorem sorted_any (B : Nat) (A : Option Addr) (n c : Nat) (rs : List R) (seq : Bool) (w : World) (h : Lst kRec w B A n rs) (hB : B ≤ w.heap.size) (hn : n ≤ 1073741824) :
    Calls Try.prog 15 #[.slice A n c, .bool seq] w fun e w' => e = .returned (.bool (srtB seq rs)) ∧ Below w.heap.size w w' := by
  have HL := Lib.hid h.1
  go_enter Try.func15, Try.ntmps15
  have hsub : IntKind.i64.wrap ((n : Int) - 1) = (n : Int) - 1 := by rw [IntKind.wrap_i64]; omega
  go_wp2_with fail
  go_loopw [5, 10] (fun x i wr => ∃ k : Nat, k ≤ n - 1 ∧ i = .int .i64 k ∧ x = .int .u64 (oneI (wrongTo seq rs k)) ∧ Below w.heap.size w wr) (fun _ i _ => n - (intOf i).toNat)
  case atStart => exact ⟨0, by omega, rfl, rfl, Below.refl _ _⟩
  case round =>
    obtain ⟨k, hk, rfl, rfl, hst⟩ := hrel
    by_cases hlt1 : k + 1 < n
    · have hlt : k < n := by omega
      have hlt' : (k : Int) < (n : Int) - 1 := by omega
      have hr := Lst.below h (hst.mono hB)
      obtain ⟨b, off, rfl, hb, hx⟩ := hr.at_ hlt
      obtain ⟨b', off', e1, _, hy⟩ := hr.at_ hlt1
      injection e1 with e1
      injection e1 with e1 e2
      subst e1
      subst e2
      have hx : wr.rangeAt b (off + k * 4) (rs.getD k R0).cells := hx
      have hy : wr.rangeAt b (off + (k + 1) * 4) (rs.getD (k + 1) R0).cells := hy
      have wx := h.2.1 _ (getD_mem (rs := rs) (i := k) (by have := HL.out; omega))
      have wy := h.2.1 _ (getD_mem (rs := rs) (i := k + 1) (by have := HL.out; omega))
      have HWR := Lib.hid (show bits .or .u64 (oneI (wrongTo seq rs k)) (oneI (lead seq (rs.getD (k + 1) R0) (rs.getD k R0))) = oneI (wrongTo seq rs (k + 1)) by rw [wrongTo_succ, or_one])
      have HP1 := Lib.hid (show IntKind.i64.wrap ((k : Int) + 1) = ((k + 1 : Nat) : Int) by rw [IntKind.wrap_i64]; omega)
      have hbw : b < wr.heap.size := Nat.lt_of_lt_of_le hb (Nat.le_trans hB hst.size)
      generalize rs.getD k R0 = x at hx wx HWR
      generalize rs.getD (k + 1) R0 = y at hy wy HWR
      clear hr hsub
      go_wp2_with fail
      refine wp_region_held (S := fun W => Below wr.heap.size wr W) (by kernel_rfl) ?_
      change wpAnyH _ _ _ _ _ _ _ _ wr.drew
      have c0_0 := (Below.refl wr.heap.size wr).drew
      refine Held.tk (v := .int .u64 (oneI (wrongTo seq rs k))) 0 (some 13) rfl (Held.y_move rfl rfl) c0_0 ?_
      simp only [Act.put, Z1, Z2, Z3]
      refine Held.tk (v := .slice (some ⟨b, off, none⟩) n c) 1 (some 14) rfl (Held.y_move rfl rfl) c0_0 ?_
      simp only [Act.put, Z1, Z2, Z3]
      refine Held.tk (v := .int .i64 (k : Int)) 2 (some 15) rfl (Held.y_move rfl rfl) c0_0 ?_
      simp only [Act.put, Z1, Z2, Z3]
      refine Held.tk (v := .int .i64 ((k + 1 : Nat) : Int)) 3 (some 16) rfl (Held.y_int rfl rfl rfl (Held.run_add 3 .i64 HP1.out)) c0_0 ?_
      simp only [Act.put, Z1, Z2, Z3]
      refine Held.tk (v := .pointer (some ⟨b, off + (k + 1) * 4, none⟩)) 4 (some 17) rfl (Held.y_addr rfl rfl rfl (run_addr_of 22 26 b off n c (k + 1) 4 .i64 Try.underlying22 (by kernel_rfl) hlt1)) c0_0 ?_
      simp only [Act.put, Z1, Z2, Z3]
      refine Held.tk (v := .agg #[.bool y.d, .int .i64 y.k, .int .i64 y.v, .int .i64 y.s]) 5 (some 18) rfl (y_load_range (n := 4) (cs := y.cells) rfl rfl Try.underlying26 rfl (by kernel_rfl) rfl (fun W hW => range_below hy hW hbw)) c0_0 ?_
      simp only [Act.put, Z1, Z2, Z3]
      refine Held.tk (v := .slice (some ⟨b, off, none⟩) n c) 6 (some 19) rfl (Held.y_move rfl rfl) c0_0 ?_
      simp only [Act.put, Z1, Z2, Z3]
      refine Held.tk (v := .int .i64 (k : Int)) 7 (some 20) rfl (Held.y_move rfl rfl) c0_0 ?_
      simp only [Act.put, Z1, Z2, Z3]
      refine Held.tk (v := .pointer (some ⟨b, off + k * 4, none⟩)) 8 (some 21) rfl (Held.y_addr rfl rfl rfl (run_addr_of 22 26 b off n c k 4 .i64 Try.underlying22 (by kernel_rfl) hlt)) c0_0 ?_
      simp only [Act.put, Z1, Z2, Z3]
      refine Held.tk (v := .agg #[.bool x.d, .int .i64 x.k, .int .i64 x.v, .int .i64 x.s]) 9 (some 22) rfl (y_load_range (n := 4) (cs := x.cells) rfl rfl Try.underlying26 rfl (by kernel_rfl) rfl (fun W hW => range_below hx hW hbw)) c0_0 ?_
      simp only [Act.put, Z1, Z2, Z3]
      refine Held.tk (v := .bool seq) 10 (some 23) rfl (Held.y_move rfl rfl) c0_0 ?_
      simp only [Act.put, Z1, Z2, Z3]
      refine Held.one 11 (by kernel_rfl) ?_
      refine Held.op_call 11 (some 24) 30 #[.agg #[.bool y.d, .int .i64 y.k, .int .i64 y.v, .int .i64 y.s], .agg #[.bool x.d, .int .i64 x.k, .int .i64 x.v, .int .i64 x.s], .bool seq] rfl rfl rfl rfl (enters_of Try.func30 (by kernel_rfl) rfl) (by simp [Act.eval])
        (leads_any seq y x wy wx _) ?_
      rintro e w1 ⟨rfl, b1⟩
      have c0_1 := c0_0.trans (b1.mono c0_0.size)
      refine ⟨_, rfl, c0_1, ?_⟩
      simp only [Act.put, Z1, Z2, Z3]
      refine Held.tk (v := .int .u64 (oneI (wrongTo seq rs (k + 1)))) 12 (some 25) rfl (Held.y_int rfl rfl rfl (Held.run_bitop (by simp) 43 .u64 HWR.out)) c0_1 ?_
      simp only [Act.put, Z1, Z2, Z3]
      refine Held.tk (v := .int .u64 (oneI (wrongTo seq rs (k + 1)))) 13 (some 5) rfl (Held.y_assign rfl rfl) c0_1 ?_
      simp only [Act.put, Z1, Z2, Z3]
      refine wpAnyH_done (by kernel_rfl) ?_ _
      have dz := hst.trans (c0_1.mono hst.size)
      go_wp2_with fail
      go_roundw
      case rel => exact ⟨k + 1, by omega, by go_num, rfl, dz⟩
      case measure => simp [intOf]; omega
    · have hkn : k = n - 1 := by omega
      have hnlt : ¬ (k : Int) < (n : Int) - 1 := by omega
      have HS := Lib.hid (show srtB seq rs = !wrongTo seq rs k by rw [srtB, HL.out, hkn])
      cases hw : wrongTo seq rs k with
      | false =>
        rw [hw] at HS
        rw [show oneI false = 0 from rfl]
        clear hsub
        go_wp2_with fail
        go_ret
        exact ⟨Mem.ret_bool HS.out.symm, hst⟩
      | true =>
        rw [hw] at HS
        rw [show oneI true = 1 from rfl]
        clear hsub
        go_wp2_with fail
        go_ret
        exact ⟨Mem.ret_bool HS.out.symm, hst⟩
end Go.Proofs.Ytbhgonnonhiocaa.Mg
namespace Go.Proofs.Ytbhgonnonhiocaa.Rc
open Go.RowKit Go.Shelf Go.Proofs.Ytbhgonnonhiocaa Mem Help Go.Proofs.Ytbhgonnonhiocaa.Sum Po Ky Ct Go.Proofs.Ytbhgonnonhiocaa.Bit Held Go.Proofs.Ytbhgonnonhiocaa.Range
attribute [local go_sem] Oper.semAt_some
attribute [local irreducible] wpList wpListIn Calls
def fld (zs : List Int) (i : Nat) : Int := val ((zs.drop (8 * i)).take 8)
def noneC : Array Value := #[.bool false, .int .i64 0, .int .i64 0, .int .i64 0]
def flds (zs : List Int) : List Int := [fld zs 0, fld zs 1, fld zs 2, fld zs 3]
def TInv (w : World) (gr gn : Nat) (zs : List Int) (pre : List Nat) (W : World) : Prop :=
  Row W gn 63 .u64 (blend (flds zs) (List.replicate 4 0) pre.length) ∧ Blk W gr 26 noneC ∧ Below w.heap.size w W
theorem TInv.own (w : World) (gr gn : Nat) (zs : List Int) {B : Nat} (hB : w.heap.size ≤ B) : OwnFrom B (TInv w gr gn zs) := fun pre W W' row ⟨h1, h2, h4⟩ hg hr =>
  ⟨row_own h1 hg hr, blk_own h2 hg hr, h4.grown hg h4.size (fun r e => Nat.le_trans hB (hr r e).1)⟩
end Go.Proofs.Ytbhgonnonhiocaa.Rc
namespace Go.Proofs.Ytbhgonnonhiocaa.Rc
open Go.RowKit Go.Shelf Go.Proofs.Ytbhgonnonhiocaa Mem Help Go.Proofs.Ytbhgonnonhiocaa.Sum Po Ky Held
attribute [local irreducible] wpList wpListIn Calls
end Go.Proofs.Ytbhgonnonhiocaa.Rc
namespace Go.Proofs.Ytbhgonnonhiocaa.Mem
open Go.RowKit
def Flat (A : Option Addr) (cap : Nat) : Prop := cap = 0 ∨ A = none ∨ ∃ b off, A = some ⟨b, off, none⟩
theorem Flat.head (b off cap : Nat) : Flat (some ⟨b, off, none⟩) cap := .inr (.inr ⟨b, off, rfl⟩)
section
variable {P : Program} {t e : TypeId} {A : Option Addr} {n cap : Nat}
end
theorem Own.flat {w : World} {base : Nat} {t : TypeId} {k : IntKind} {A : Option Addr} {n c : Nat} {zs : List Int} (h : Own w base t k (.slice A n c) zs) : Flat A c := by
  rcases h.2.2 with ⟨hv, _⟩ | ⟨g, cap, cur, hv, _⟩
  · injection hv with e1; exact .inr (.inl e1)
  · injection hv with e1; exact .inr (.inr ⟨g, 0, e1⟩)
end Go.Proofs.Ytbhgonnonhiocaa.Mem
namespace Go.Proofs.Ytbhgonnonhiocaa.Rc
open Go.RowKit Go.Shelf Go.Proofs.Ytbhgonnonhiocaa Mem Help Go.Proofs.Ytbhgonnonhiocaa.Sum Po Ky Ct Go.Proofs.Ytbhgonnonhiocaa.Bit Held
attribute [local irreducible] wpList wpListIn Calls
end Go.Proofs.Ytbhgonnonhiocaa.Rc
namespace Go.Proofs.Ytbhgonnonhiocaa.Mg
open Go.RowKit Go.Shelf Go.Proofs.Ytbhgonnonhiocaa Mem Held Ct Rc Rs Sl
attribute [local irreducible] wpList wpListIn Calls
section
variable {α : Type} {k : St α} {P : Program} {ops : Array Oper} {o : Oper} {a : Act} {w : World} {Q : Exit → Act → World → Prop}
end
theorem take_snoc {rs : List R} {i : Nat} (h : i < rs.length) : rs.take (i + 1) = rs.take i ++ [rs.getD i R0] := by
  rw [List.take_add_one, List.getElem?_eq_getElem h, List.getD_eq_getElem?_getD, List.getElem?_eq_getElem h]
  rfl
end Go.Proofs.Ytbhgonnonhiocaa.Mg
namespace Go.Proofs.Ytbhgonnonhiocaa.Mg
open Go.RowKit Go.Shelf Go.Proofs.Ytbhgonnonhiocaa Mem Held Ct Rc Rs Sl
attribute [local irreducible] wpList wpListIn Calls
theorem wpList_build_recL {ops : Array Oper} {rest : List Oper} {o : Oper} {a : Act} {w : World} {Q : Exit → Act → World → Prop} (hgd : o.guard = none) (y : Operand) (ho : o.op = .buildSlice 22 1 #[(0, y)]) (f : R) (hy : a.eval y = .agg #[.bool f.d, .int .i64 f.k, .int .i64 f.v, .int .i64 f.s]) (hf : f.wf)
    (h : ∀ w', Lst kRec w' w'.heap.size (some ⟨w.heap.size, 0, none⟩) 1 [f] → w.grownBy w' none → wpList Try.prog ops Q rest (a.put o.dst (.slice (some ⟨w.heap.size, 0, none⟩) 1 1)) w') : wpList Try.prog ops Q (o :: rest) a w :=
  wpList_build_rec hgd y ho f hy fun w' q g _ => h w' (lst_whole (k := kRec) q rfl (fun y hy => by rw [List.mem_singleton.1 hy]; exact hf)) g
set_option maxRecDepth 100000 in
set_option maxHeartbeats 8000000 in
theorem awake14_any (w : World) : Calls Try.prog 8 #[] w fun e w' => e = .returned (.bool true) ∧ Below w.heap.size w w' := by
  go_enter Try.func8, Try.ntmps8
  go_wp2_with (first
    | (refine wpList_build_blk rfl 26 #[(1, .const (.int .i64 3))] rfl #[.bool false, .int .i64 3, .int .i64 0, .int .i64 0] (by kernel_rfl) ?_)
    | (refine wpList_build_blk rfl 26 #[(1, .const (.int .i64 1))] rfl #[.bool false, .int .i64 1, .int .i64 0, .int .i64 0] (by kernel_rfl) ?_)
    | (refine wpList_build_recL (w := w) rfl _ rfl ⟨false, 3, 0, 0⟩ rfl ⟨rfl, rfl, rfl⟩ ?_; intro w1 l1 g1)
    | (refine wpList_build_recL (w := w1) rfl _ rfl ⟨false, 1, 0, 0⟩ rfl ⟨rfl, rfl, rfl⟩ ?_; intro w2 l2 g2))
  have b1 : Below w.heap.size w w1 := (Below.refl _ w).grown g1 (Nat.le_refl _) (by simp)
  have b2 : Below w1.heap.size w1 w2 := (Below.refl _ w1).grown g2 (Nat.le_refl _) (by simp)
  refine (split_any w1.heap.size w2.heap.size _ _ 1 1 1 1 _ _ true w2 (Lst.below l1 b2) l2 b2.size (Nat.le_refl _) (by omega) (by omega)).mono ?_
  rintro e w3 ⟨v, v2, rfl, o1, o2, b3⟩
  have b3 := (b1.trans (b2.mono b1.size)).trans (b3.mono (Nat.le_trans b1.size b2.size))
  have e1 : (sortR true ([⟨false, 3, 0, 0⟩] ++ [⟨false, 1, 0, 0⟩])).take [(⟨false, 3, 0, 0⟩ : R)].length = [⟨false, 1, 0, 0⟩] := by decide +kernel
  have e2 : (sortR true ([⟨false, 3, 0, 0⟩] ++ [⟨false, 1, 0, 0⟩])).drop [(⟨false, 3, 0, 0⟩ : R)].length = [⟨false, 3, 0, 0⟩] := by decide +kernel
  rw [e1] at o1
  rw [e2] at o2
  obtain ⟨A, c, rfl, _⟩ := OwnL.form o1
  obtain ⟨A2, c2, rfl, _⟩ := OwnL.form o2
  obtain ⟨b, off, rfl, _, hx⟩ := (OwnL.lst o1 (fun y hy => by rw [List.mem_singleton.1 hy]; exact ⟨rfl, rfl, rfl⟩)).at_ (i := 0) (by decide)
  obtain ⟨b', off', rfl, _, hy⟩ := (OwnL.lst o2 (fun y hy => by rw [List.mem_singleton.1 hy]; exact ⟨rfl, rfl, rfl⟩)).at_ (i := 0) (by decide)
  have cx : w3.cell? ⟨b, off + 1, none⟩ = some (.int .i64 1) := hx 1 _ rfl
  have cy : w3.cell? ⟨b', off' + 1, none⟩ = some (.int .i64 3) := hy 1 _ rfl
  clear hx hy o1 o2 e1 e2 l1 l2
  go_wp2_with (first
    | (refine Held.wpList_run (w := w3) rfl (v := .pointer (some ⟨b, off + 0 * 4, none⟩)) (Held.y_addr (S := fun _ => True) rfl rfl rfl (run_addr_of 22 26 b off 1 c 0 4 .i64 Try.underlying22 (by kernel_rfl) (by omega)) _ trivial) ?_)
    | (refine Held.wpList_run (w := w3) rfl (v := .pointer (some ⟨b', off' + 0 * 4, none⟩)) (Held.y_addr (S := fun _ => True) rfl rfl rfl (run_addr_of 22 26 b' off' 1 c2 0 4 .i64 Try.underlying22 (by kernel_rfl) (by omega)) _ trivial) ?_))
  go_ret
  exact ⟨rfl, b3⟩
end Go.Proofs.Ytbhgonnonhiocaa.Mg
namespace Go.Proofs.Ytbhgonnonhiocaa.Mg
open Go.RowKit Go.Shelf Go.Proofs.Ytbhgonnonhiocaa Mem Held Rc Rs Sl
open Go.Maps (Keyed)
open Go.ChangeMaps (setBlock)
def recV (r : R) : Value := .agg #[.bool r.d, .int .i64 r.k, .int .i64 r.v, .int .i64 r.s]
theorem recV_inj {a b : R} (h : recV a = recV b) : a = b := by
  unfold recV at h
  injection h with h
  have h := congrArg Array.toList h
  simp at h
  exact R.eq h.1 h.2.1 h.2.2.1 h.2.2.2
theorem some_types : ∃ m, Try.prog.types.size = m + 1 := by
  have h : 0 < Try.prog.types.size := of_decide_eq_true (by kernel_rfl)
  exact ⟨Try.prog.types.size - 1, by omega⟩
theorem key_type : Try.prog.keyType 26 = true := by kernel_rfl
theorem rec_form (r : R) : (recV r).formed Try.prog 26 = true := by
  simp only [recV, Value.formed, Try.underlying26]
  have : Try.prog.cellsOf 26 = 4 := by kernel_rfl
  rw [this]
  rfl
theorem rec_law : WideMaps.KeyLaw Try.prog 26 := deep_law (m := 2) (by omega) (by kernel_rfl) (by kernel_rfl) (by simp only [Try.underlying26])
theorem rec_keyed : Keyed Try.prog 26 := Keyed.of_law rec_law
theorem key_rec {r : R} (h : r.wf) : keyOf Try.prog 26 (recV r) = some (.string (keyBytes [.bool r.d, .int .i64 r.k, .int .i64 r.v, .int .i64 r.s])) := by
  have hkt := key_type
  have hf := rec_form r
  obtain ⟨m, hm⟩ := some_types
  have cb : Try.prog.cellsOf 4 = 1 := by kernel_rfl
  have ci : Try.prog.cellsOf 2 = 1 := by kernel_rfl
  have c4 : Try.prog.cellsOf 26 = 4 := by kernel_rfl
  obtain ⟨h1, h2, h3⟩ := h
  obtain ⟨q, hq⟩ : ∃ q, m = q + 1 := by
    have h : 1 < Try.prog.types.size := of_decide_eq_true (by kernel_rfl)
    exact ⟨m - 1, by omega⟩
  unfold keyOf
  simp only [Try.underlying26]
  rw [if_pos (by rw [hkt, hf]; rfl), hm, hq]
  unfold Program.keyLits
  simp only [Try.underlying26, Value.cells, recV]
  rw [if_pos ⟨by rw [c4]; rfl, by kernel_rfl⟩]
  simp [List.mapM_cons, cb, ci, Program.keyLits, Try.underlying4, Try.underlying2, h1, h2, h3]
theorem lits_bool {m : Nat} {c : Value} {l : List Lit} (h : Try.prog.keyLits (m + 1) 4 [c] = some l) : ∃ b, c = .bool b := by
  unfold Program.keyLits at h
  simp only [Try.underlying4] at h
  cases c <;> simp at h
  exact ⟨_, rfl⟩
theorem lits_int {m : Nat} {c : Value} {l : List Lit} (h : Try.prog.keyLits (m + 1) 2 [c] = some l) : ∃ n, c = .int .i64 n ∧ (Lit.int .i64 n).wf = true := by
  unfold Program.keyLits at h
  simp only [Try.underlying2] at h
  cases c <;> simp at h
  obtain ⟨⟨rfl, hw⟩, _⟩ := h
  exact ⟨_, rfl, hw⟩
theorem key_inv {v : Value} {kl : Lit} (h : keyOf Try.prog 26 v = some kl) : ∃ r : R, r.wf ∧ v = recV r := by
  have cb : Try.prog.cellsOf 4 = 1 := by kernel_rfl
  have ci : Try.prog.cellsOf 2 = 1 := by kernel_rfl
  have c4 : Try.prog.cellsOf 26 = 4 := by kernel_rfl
  obtain ⟨xs, L, rfl, hl, _⟩ := keyOf_top (by simp only [Try.underlying26]) h
  unfold Program.keyLits at hl
  simp only [Try.underlying26] at hl
  rw [c4] at hl
  split at hl
  · rename_i hc
    obtain ⟨h4, _⟩ := hc
    obtain ⟨m, hm⟩ := some_types
    rw [hm] at hl
    obtain ⟨cs⟩ := xs
    match cs, h4 with
    | [c0, c1, c2, c3], _ =>
      simp only [List.mapM_cons, List.mapM_nil, cb, ci, List.drop_zero, List.drop_succ_cons, List.take_succ_cons, List.take_zero] at hl
      cases e0 : Try.prog.keyLits (m + 1) 4 [c0] with
      | none => simp [e0] at hl
      | some l0 =>
        cases e1 : Try.prog.keyLits (m + 1) 2 [c1] with
        | none => simp [e0, e1] at hl
        | some l1 =>
          cases e2 : Try.prog.keyLits (m + 1) 2 [c2] with
          | none => simp [e0, e1, e2] at hl
          | some l2 =>
            cases e3 : Try.prog.keyLits (m + 1) 2 [c3] with
            | none => simp [e0, e1, e2, e3] at hl
            | some l3 =>
              obtain ⟨b, rfl⟩ := lits_bool e0
              obtain ⟨n1, rfl, w1⟩ := lits_int e1
              obtain ⟨n2, rfl, w2⟩ := lits_int e2
              obtain ⟨n3, rfl, w3⟩ := lits_int e3
              exact ⟨⟨b, n1, n2, n3⟩, ⟨w1, w2, w3⟩, rfl⟩
  · cases hl
section
variable {P : Program} {K E T : TypeId}
def MpK (w : World) (b n : Nat) (f : R → Int) : Prop :=
  ∃ D : DataW Unit, w.ownsMap Try.prog 26 (plainElem Try.prog 3) b n D ∧ ∀ r : R, r.wf → ∀ kl, keyOf Try.prog 26 (recV r) = some kl → D.atKey kl (.lit (.int .i64 0)) = .lit (.int .i64 (f r))
variable {w w' : World} {b n : Nat} {f : R → Int}
theorem MpK.made (w : World) : MpK (w.alloc (.map #[] 0)) w.heap.size 0 (fun _ => 0) := ⟨.map [], World.ownsMap_made _ _ _ _, fun r _ kl _ => rfl⟩
theorem MpK.lt (h : MpK w b n f) : b < w.heap.size := by
  obtain ⟨D, h, _⟩ := h
  exact h.lt
theorem MpK.kept {row : Option Nat} (h : MpK w b n f) (hg : w.grownBy w' row) (hne : some b ≠ row) : MpK w' b n f := by
  obtain ⟨D, h, r⟩ := h
  exact ⟨D, h.kept hg hne, r⟩
theorem MpK.of_obj {w2 : World} (h : MpK w b n f) (e : w2.heap[b]? = w.heap[b]?) : MpK w2 b n f := by
  obtain ⟨D, ⟨es, clock, hb, r⟩, r2⟩ := h
  exact ⟨D, ⟨es, clock, e.trans hb, r⟩, r2⟩
theorem MpK.look (h : MpK w b n f) {r : R} (hr : r.wf) : (Instr.lookup 34 (.map (some b)) (recV r) false).run Try.prog w = .ok (.int .i64 (f r)) w := by
  obtain ⟨D, h, hf⟩ := h
  have hz : (zeroValue 3).run Try.prog w = .ok (.int .i64 0) w := by simp [go_sem]
  obtain ⟨c, hrun, hc, _⟩ := h.lookup_int rec_keyed Try.underlying34 Try.underlying3 hz (key_rec hr)
  rw [hf r hr _ (key_rec hr)] at hc
  injection hc with hc
  injection hc with _ hc
  rw [hc]
  exact hrun
def upd (f : R → Int) (r : R) (v : Int) : R → Int := fun q => if q = r then v else f q
theorem upd_same (f : R → Int) (r : R) : upd f r (f r) = f := by
  funext q
  unfold upd
  split
  · rename_i e; rw [e]
  · rfl
theorem zero_n (w : World) : (zeroValue 3).run Try.prog w = .ok (.int .i64 0) w := by simp [go_sem]
theorem MpK.turned (h : MpK w b n f) (hn : n ≤ 1000) {r : R} (hr : r.wf) {v : Int} (hv : (Lit.int .i64 v).wf = true) {w1 : World} (hrun : (Instr.mapUpdate 34 (.map (some b)) (recV r) (.int .i64 v)).run Try.prog w = .ok () w1) : MpK w1 b (n + 1) (upd f r v) := by
  obtain ⟨D, hown, hf⟩ := h
  have hm := (hown.tidy rec_keyed).isMap
  obtain ⟨w', hrun', h2, _⟩ := hown.update rec_keyed Try.underlying34 (by unfold maxLen; omega) (key_rec hr) (plainElem_int Try.underlying3 hv)
  rw [hrun] at hrun'
  injection hrun' with _ e
  subst e
  refine ⟨_, h2, fun q hq kl hk => ?_⟩
  unfold upd
  by_cases e : q = r
  · subst e
    rw [if_pos rfl]
    rw [key_rec hr] at hk
    injection hk with hk
    rw [← hk, Maps.atKey_put_same hm (by trivial)]
  · rw [if_neg e, Maps.atKey_put_other (fun e2 => e (recV_inj (rec_keyed.inj (by rw [← e2]; exact hk) (key_rec hr)))), hf q hq kl hk]
theorem MpK.entry (h : MpK w b n f) (hn : n ≤ 1000) {r : R} (hr : r.wf) :
    ∃ v0 st w1, (Instr.mapEntry 34 (.map (some b)) (recV r)).run Try.prog w = .ok (.tuple #[v0, st]) w1 ∧ MpK w1 b (n + 1) f ∧ w.grownBy w1 (some b) ∧
      ∀ (w2 : World) (v : Int), w2.heap[b]? = w1.heap[b]? → (Lit.int .i64 v).wf = true → ∃ w3, (Instr.entryStore 34 (.map (some b)) st (.int .i64 v)).run Try.prog w2 = .ok () w3 ∧ MpK w3 b (n + 1) (upd f r v) ∧ w2.grownBy w3 (some b) := by
  have hk := key_rec hr
  have hlook := h.look hr
  have h0 := h
  obtain ⟨D, ⟨es, clock, hb, F, hs, hD⟩, hf⟩ := h
  have hgb : ∀ (w2 : World) (o o2 : Obj), w2.heap[b]? = some o → w2.grownBy (setBlock w2 b o2) (some b) := fun w2 o o2 ho => ⟨rfl, rfl, rfl, by simp [setBlock], fun i hi hne => by
    unfold setBlock
    simp only []
    rw [Array.getElem?_setIfInBounds_ne (fun e => hne (by rw [e]))]⟩
  have hset : ∀ (w2 : World) (o o2 : Obj), w2.heap[b]? = some o → (setBlock w2 b o2).heap[b]? = some o2 := fun w2 o o2 ho => by
    unfold setBlock
    simp only []
    exact Array.getElem?_setIfInBounds_self_of_lt (Array.getElem?_eq_some_iff.1 ho).1
  obtain ⟨v0, st, es1, clock1, hrun, hfound, hstore⟩ := WideElems.entry_then_store rec_law Try.underlying34 zero_n hb F hk
  refine ⟨v0, goInt st, _, hrun, ?_, hgb w _ _ hb, fun w2 v hw2 hv => ?_⟩
  · rcases rec_keyed.find w hk es.toList F.keys with ⟨h1, h2⟩ | ⟨j, e0, h1, h2, h3⟩
    · have hz : f r = 0 := by
        have : (Instr.lookup 34 (.map (some b)) (recV r) false).run Try.prog w = .ok (.int .i64 0) w := by
          simp [Instr.lookup, run_underlying Try.underlying34, MapKept.run_getObj_map hb, rec_keyed.check w _ hk, h1, zero_n, Result.andThen]
        rw [this] at hlook
        injection hlook with hlook
        injection hlook with _ hlook
        exact hlook.symm
      have e1 : (Instr.mapEntry 34 (.map (some b)) (recV r)).run Try.prog w = .ok (.tuple #[.int .i64 0, goInt clock]) (setBlock w b (.map (es.push ⟨recV r, .int .i64 0, clock⟩) (clock + 1))) := by
        simp [Instr.mapEntry, run_underlying Try.underlying34, MapKept.run_getObj_map hb, rec_keyed.check w false hk, h1, zero_n, MapKept.run_setObj_map _ hb, Result.andThen, setBlock]
      have e2 : (Instr.mapUpdate 34 (.map (some b)) (recV r) (.int .i64 0)).run Try.prog w = .ok () (setBlock w b (.map (es.push ⟨recV r, .int .i64 0, clock⟩) (clock + 1))) := by
        simp [Instr.mapUpdate, run_underlying Try.underlying34, MapKept.run_getObj_map hb, rec_keyed.check w false hk, h1, MapKept.run_setObj_map _ hb, Result.andThen, setBlock]
      rw [hrun] at e1
      injection e1 with _ e1
      rw [e1]
      have := h0.turned hn hr (v := 0) (by decide) e2
      have hu : upd f r 0 = f := by
        have := upd_same f r
        rwa [hz] at this
      rwa [hu] at this
    · have hj : es[j]? = some e0 := by simpa using h2
      have hsame : es.modify j (fun e => { e with key := recV r }) = es := by
        apply Array.ext (by simp)
        intro i hi1 hi2
        rw [Array.getElem_modify]
        split
        · rename_i e
          subst e
          have : es[j] = e0 := by rw [Array.getElem?_eq_some_iff] at hj; exact hj.2
          rw [this, ← h3]
        · rfl
      have e1 : (Instr.mapEntry 34 (.map (some b)) (recV r)).run Try.prog w = .ok (.tuple #[e0.val, goInt e0.born]) (setBlock w b (.map es clock)) := by
        simp [Instr.mapEntry, run_underlying Try.underlying34, MapKept.run_getObj_map hb, rec_keyed.check w false hk, h1, hj, h3, rec_keyed.stays w hk, hsame, MapKept.run_setObj_map _ hb, Result.andThen, setBlock]
      rw [hrun] at e1
      injection e1 with _ e1
      rw [e1]
      obtain ⟨D', ⟨es', clock', hb', r1, r2, r3⟩, r4⟩ := h0
      exact ⟨D', ⟨es', clock', (hset w _ _ hb).trans (hb.symm.trans hb'), r1, Nat.le_succ_of_le r2, r3⟩, r4⟩
  · have hw2' : w2.heap[b]? = some (.map es1 clock1) := hw2.trans (hset w _ _ hb)
    obtain ⟨es', clock', hs1, hs2⟩ := hstore w2 (.int .i64 v) hw2'
    refine ⟨_, hs1, (h0.turned hn hr hv hs2).of_obj ?_, hgb w2 _ _ hw2'⟩
    rw [hset w2 _ _ hw2', hset w _ _ hb]
end
section
variable {ops : Array Oper} {rest : List Oper} {o : Oper} {a : Act} {w : World} {Q : Exit → Act → World → Prop} {b n : Nat} {f : R → Int}
theorem wpList_makeMap_k (hw : Region.wanted o (yielded ops a.tmps) = true) (ho : o.op = .makeMap 34 none)
    (h : ∀ w', MpK w' w.heap.size 0 (fun _ => 0) → w.grownBy w' none → wpList Try.prog ops Q rest (a.put o.dst (.map (some w.heap.size))) w') : wpList Try.prog ops Q (o :: rest) a w := by
  have hrun := run_makeMap (P := Try.prog) 34 w
  refine wpList_step fun _ hK' => ?_
  rw [if_pos hw]
  unfold Oper.wp
  simp [execOp, ho, hrun, Result.andThen]
  exact hK' _ _ (h _ (MpK.made w) (World.grownBy_alloc w _ none))
theorem op_lookk (i : Nat) (d : Option Tmp) {K' : Act → World → Prop} {m x : Operand} (r : R) (hi : ops[i]? = some o) (hd : o.dst = d) (hw : Region.wanted o (yielded ops a.tmps) = true)
    (ho : o.op = .lookup 34 m x false) (hm : a.eval m = .map (some b)) (hx : a.eval x = recV r) (hr : r.wf) (hM : MpK w b n f)
    (h : K' (a.put d (.int .i64 (f r))) w) : wpOp Try.prog ops Q i K' a w := by
  subst hd
  have hrun := hM.look hr
  refine op_wp i hi hw ?_
  unfold Oper.wp
  simp [execOp, ho, hm, hx, hrun, Result.andThen]
  exact h
theorem op_entryk (i : Nat) (d : Option Tmp) {K' : Act → World → Prop} {m x : Operand} (r : R) (hi : ops[i]? = some o) (hd : o.dst = d) (hw : Region.wanted o (yielded ops a.tmps) = true)
    (ho : o.op = .mapEntry 34 m x) (hm : a.eval m = .map (some b)) (hx : a.eval x = recV r) (hr : r.wf) (hM : MpK w b n f) (hn : n ≤ 1000)
    (h : ∀ v0 st w1, MpK w1 b (n + 1) f → w.grownBy w1 (some b) → (∀ (w2 : World) (v : Int), w2.heap[b]? = w1.heap[b]? → (Lit.int .i64 v).wf = true → ∃ w3, (Instr.entryStore 34 (.map (some b)) st (.int .i64 v)).run Try.prog w2 = .ok () w3 ∧ MpK w3 b (n + 1) (upd f r v) ∧ w2.grownBy w3 (some b)) →
      K' (a.put d (.tuple #[v0, st])) w1) : wpOp Try.prog ops Q i K' a w := by
  subst hd
  obtain ⟨v0, st, w1, hrun, h1, h2, h3⟩ := hM.entry hn hr
  refine op_wp i hi hw ?_
  unfold Oper.wp
  simp [execOp, ho, hm, hx, hrun, Result.andThen]
  exact h v0 st w1 h1 h2 h3
theorem op_storek (i : Nat) (d : Option Tmp) {K' : Act → World → Prop} {m x y : Operand} (st : Value) (v : Int) {w3 : World} (hi : ops[i]? = some o) (hd : o.dst = d) (hw : Region.wanted o (yielded ops a.tmps) = true)
    (ho : o.op = .entryStore 34 m x y) (hm : a.eval m = .map (some b)) (hx : a.eval x = st) (hy : a.eval y = .int .i64 v) (hrun : (Instr.entryStore 34 (.map (some b)) st (.int .i64 v)).run Try.prog w = .ok () w3)
    (h : K' (a.put d undef) w3) : wpOp Try.prog ops Q i K' a w := by
  subst hd
  refine op_wp i hi hw ?_
  unfold Oper.wp
  simp [execOp, ho, hm, hx, hy, hrun, Result.andThen]
  exact h
end
end Go.Proofs.Ytbhgonnonhiocaa.Mg
namespace Go.Proofs.Ytbhgonnonhiocaa.Rs
open Go.RowKit Go.ChangeShapes Go.WideShapes Mem Rc
theorem cells_four {w : World} {base : Nat} {a : Addr} {cs : List Value} (h : w.cells? base a 4 = some cs) : cs.length = 4 ∧ ∀ j, j < 4 → w.cell? (a.add j) = cs[j]? := by
  obtain ⟨h1, h2, h3⟩ := World.cells?_some h
  exact ⟨h2, h3⟩
section
variable {H : Type} {enc : TypeId × Value → H} {w : World} {base : Nat} {held : Bool}
theorem open_one {n : Nat} {cs : List Value} {x : DataW H × List MemPlace} (h : DataW.trod enc Try.prog w base (fun _ => true) held n 26 cs = some x) : ∃ r : R, cs = r.cells ∧ r.wf := by
  obtain ⟨f0, f1, f2, f3, hu, ⟨o0, t0⟩, ⟨o1, t1⟩, ⟨o2, t2⟩, ⟨o3, t3⟩⟩ := rec_fields
  obtain ⟨xs, m, _, _, hl, hxl, hel⟩ := DataW.trod_struct hu h
  have cb : Try.prog.cellsOf 4 = 1 := by kernel_rfl
  have ci : Try.prog.cellsOf 2 = 1 := by kernel_rfl
  have c4 : Try.prog.cellsOf 26 = 4 := by kernel_rfl
  rw [c4] at hl
  have hx4 : xs.length = 4 := hxl
  have e0 := hel 0 f0 rfl
  have e1 := hel 1 f1 rfl
  have e2 := hel 2 f2 rfl
  have e3 := hel 3 f3 rfl
  rw [o0, t0, cb] at e0
  rw [o1, t1, ci] at e1
  rw [o2, t2, ci] at e2
  rw [o3, t3, ci] at e3
  obtain ⟨z0, q0⟩ := field_bool (by omega) Try.underlying4 e0 (by simp [hx4])
  obtain ⟨z1, q1, w1⟩ := field_int (by omega) Try.underlying2 e1 (by simp [hx4])
  obtain ⟨z2, q2, w2⟩ := field_int (by omega) Try.underlying2 e2 (by simp [hx4])
  obtain ⟨z3, q3, w3⟩ := field_int (by omega) Try.underlying2 e3 (by simp [hx4])
  refine ⟨⟨z0, z1, z2, z3⟩, ?_, w1, w2, w3⟩
  apply List.ext_getElem?
  intro i
  match i with
  | 0 => exact q0
  | 1 => exact q1
  | 2 => exact q2
  | 3 => exact q3
  | i + 4 => rw [List.getElem?_eq_none (by omega), List.getElem?_eq_none (by simp [R.cells])]
set_option maxRecDepth 100000 in
theorem open_recs {A : Option Addr} {m c : Nat} {d : DataW H} {p : List MemPlace} (h : DataW.Trod enc Try.prog w base (fun _ => true) held 22 (.slice A m c) d p) : ∃ rs, Recs w w.heap.size A m rs ∧ m ≤ c ∧ c ≤ maxLen := by
  obtain ⟨fuel, hf⟩ := h
  simp only [Value.cells] at hf
  rcases DataW.trod_slice Try.underlying22 hf with ⟨hcs, _⟩ | ⟨a, len, cap, elems, rest, n, _, hcs, _, hb, hl, hm, hlen, hel, _, _⟩
  · simp at hcs
    obtain ⟨rfl, rfl, rfl⟩ := hcs
    exact ⟨[], Recs.nil _ _ _, Nat.le_refl _, by simp [maxLen]⟩
  · simp at hcs
    obtain ⟨rfl, rfl, rfl⟩ := hcs
    have c4 : Try.prog.cellsOf 26 = 4 := by kernel_rfl
    have each : ∀ i, i < m → ∃ r : R, r.wf ∧ ∀ j, j < 4 → w.cell? ((a.add (i * 4)).add j) = r.cells[j]? := fun i hi => by
      have hi' : i < elems.length := by rw [hlen]; exact hi
      have e := hel i hi
      rw [c4, List.getElem?_eq_getElem hi', Option.bind_eq_some_iff] at e
      obtain ⟨cs, hc, ht⟩ := e
      obtain ⟨r, rfl, hw⟩ := open_one ht
      exact ⟨r, hw, (cells_four hc).2⟩
    have hch : ∃ F : Nat → R, ∀ i, i < m → (F i).wf ∧ ∀ j, j < 4 → w.cell? ((a.add (i * 4)).add j) = (F i).cells[j]? :=
      ⟨fun i => if h : i < m then Classical.choose (each i h) else R0, fun i hi => by
        have := Classical.choose_spec (each i hi)
        simp only [hi, dif_pos]
        exact this⟩
    obtain ⟨F, hF⟩ := hch
    refine ⟨(List.range m).map F, ⟨by simp, fun r hr => ?_, fun h0 => ?_⟩, hl, hm⟩
    · obtain ⟨i, hi, rfl⟩ := List.mem_map.1 hr
      exact (hF i (List.mem_range.1 hi)).1
    · have h00 := (hF 0 h0).2 0 (by omega)
      have hsome : ∃ u, w.cell? (a.add 0) = some u := ⟨_, by simpa [R.cells, Addr.add] using h00⟩
      obtain ⟨u, hu⟩ := hsome
      obtain ⟨b, off, spot⟩ := a
      have hspot : spot = none := by simpa [Addr.add] using World.cell?_spot hu
      subst hspot
      have hlt : b < w.heap.size := by simpa [Addr.add] using World.block_lt_of_cell? w _ hu
      have ea : ∀ o j : Nat, (Addr.mk b o none).add j = ⟨b, o + j, none⟩ := fun o j => by unfold Addr.add; split <;> simp_all
      refine ⟨b, off, rfl, hlt, fun q v hv => ?_⟩
      have hq := (List.getElem?_eq_some_iff.1 hv).1
      rw [flat_length] at hq
      simp only [List.length_map, List.length_range] at hq
      have hv' := hv
      rw [show q = q / 4 * 4 + q % 4 by omega, flat_at _ (q / 4) (q % 4) (by omega) (by simp; omega)] at hv'
      have hg : ((List.range m).map F).getD (q / 4) R0 = F (q / 4) := by
        rw [List.getD_eq_getElem?_getD, List.getElem?_map, List.getElem?_range (by omega)]
        rfl
      rw [hg, ← (hF (q / 4) (by omega)).2 (q % 4) (by omega), ea, ea, Nat.add_assoc, show q / 4 * 4 + q % 4 = q by omega] at hv'
      exact hv'
end
end Go.Proofs.Ytbhgonnonhiocaa.Rs
