/-
  The law VmBad of package dominolaw11 returns true for every part, place, fault and number: a program with one operation that may not be may not be, wherever it stands, and tells nothing.
-/
import Derived.Test.YteipkkakjgfchaaRows
import Derived.WalkKit
import Derived.ProofKit
import Derived.OpenShut
import Derived.ShutString
import Derived.ChangeOld
import Derived.Below
import Derived.Test.YteipkkakjgfchaaB6
namespace Go.Proofs.Yteipkkakjgfchaa.vmBad
open Go.ChangeShapes Go.WideShapes Go.ChangeAt Go.RowKit
open Go.ChangeMaps (open_string shut_string)
open Go.Shelf Go.Proofs.Yteipkkakjgfchaa Mem Held Rc Rs Sl Vm
theorem own : ownKnob Try.prog.godebug = none := by kernel_rfl
attribute [local irreducible] wpList Calls
def good : O := ⟨2, 1, 2, 3, 4, 0⟩
def line (i : Nat) (b : O) : List O := (List.replicate 5 good).set i b
theorem line_may {i : Nat} (hi : i < 5) {b : O} {k : Int} (h : mayO b k = false) : mayP (line i b) k = false := by
  refine bad_all (i := i) (by simp [line]; exact hi) ?_
  have e : (line i b).getD i O0 = b := by
    rw [line, List.getD_eq_getElem?_getD, List.getElem?_set_self (by simp; exact hi)]
    rfl
  rw [e]
  exact h
theorem line_wf {i : Nat} {b : O} (hb : b.wf) : ∀ o ∈ line i b, o.wf := fun o ho => by
  rcases List.mem_or_eq_of_mem_set ho with ho | rfl
  · rw [List.eq_of_mem_replicate ho]; exact ⟨rfl, rfl, rfl, rfl, rfl, rfl⟩
  · exact hb
theorem bad0 {l : List O} (h : mayP l 2 = false) : checkB 2 l [] [] = false := by simp [checkB, h]
theorem bad1 {l : List O} (h : mayP l 0 = false) : checkB 2 [] l [] = false := by simp [checkB, h]
theorem bad2 {l : List O} (h : mayP l 0 = false) : checkB 2 [] [] l = false := by simp [checkB, h]
theorem own_at {α : Type} {k : St α} {t : TypeId} {w : World} {base : Nat} {A : Option Addr} {n c : Nat} {xs : List α} (h : OwnL k t w base (.slice A n c) xs) (h0 : 0 < xs.length) : ∃ g, A = some ⟨g, 0, none⟩ ∧ base ≤ g := by
  rcases h.2 with ⟨e, hn⟩ | ⟨g, cap, cur, e, hb, _⟩
  · omega
  · injection e with e1
    exact ⟨g, e1, hb⟩
set_option maxRecDepth 100000 in
set_option maxHeartbeats 16000000 in
theorem start0 (xp xa xw n : Int) (w : World) (hn : (Lit.int .i64 n).wf = true) (NP NA : Nat) (hNP : wrap64 ((IntKind.u64.wrap xp).tmod 3) = (NP : Int)) (hNP2 : NP < 3) (hNA : wrap64 ((IntKind.u64.wrap xa).tmod 5) = (NA : Int)) (hNA2 : NA < 5) (hW : (IntKind.u64.wrap xw).tmod 7 = 0) :
    Calls Try.prog 5 #[.int .i64 xp, .int .i64 xa, .int .i64 xw, .int .i64 n] w fun e w' => e = .returned (.bool true) ∧ Below w.heap.size w w' := by
  have HM2 := Lib.hid (show mayP (line NA (⟨13, 1, 2, 3, 4, 0⟩ : O)) 2 = false from line_may hNA2 (by decide))
  have HM0 := Lib.hid (show mayP (line NA (⟨13, 1, 2, 3, 4, 0⟩ : O)) 0 = false from line_may hNA2 (by decide))
  have HLW := Lib.hid (line_wf (i := NA) (b := (⟨13, 1, 2, 3, 4, 0⟩ : O)) ⟨rfl, rfl, rfl, rfl, rfl, rfl⟩)
  have HGW := Lib.hid (show ∀ o ∈ List.replicate 5 good, o.wf from fun o ho => by rw [List.eq_of_mem_replicate ho]; exact ⟨rfl, rfl, rfl, rfl, rfl, rfl⟩)
  have HS := Lib.hid (fun k : Nat => (show List.replicate (k + 1) good = List.replicate k good ++ [good] by rw [List.replicate_succ']))
  go_enter Try.func5, Try.ntmps5
  go_wp2_with (first
      | (refine wpList_build_blk rfl 24 #[_, _, _, _, _] rfl #[.int .i64 2, .int .i64 1, .int .i64 2, .int .i64 3, .int .i64 4, .int .i64 0] (by kernel_rfl) ?_)
      | (refine wpList_alloc_blk (w := w) rfl 24 rfl _ zero_op ?_; intro w1 q1 g1 z1)
      | (refine wpList_store_blk (w := w1) rfl 24 _ _ rfl w.heap.size 6 rfl 24 _ #[.int .i64 2, .int .i64 1, .int .i64 2, .int .i64 3, .int .i64 4, .int .i64 0] rfl q1 size_op rfl rfl (by kernel_rfl) ?_; intro w2 q2 g2 z2)
      | (refine wpList_load_blk (w := w2) rfl 24 _ rfl w.heap.size 6 rfl 24 _ q2 _ Try.underlying24 rfl size_op rfl ?_)
      | (refine wpList_alloc_blk (w := w2) rfl 24 rfl _ zero_op ?_; intro w3 q3 g3 z3)
      | (refine wpList_store_blk (w := w3) rfl 24 _ _ rfl w2.heap.size 6 rfl 24 _ #[.int .i64 2, .int .i64 1, .int .i64 2, .int .i64 3, .int .i64 4, .int .i64 0] rfl q3 size_op rfl rfl (by kernel_rfl) ?_; intro w4 q4 g4 z4)
      | (refine wpList_run (w := w4) rfl (v := .pointer (some ⟨w2.heap.size, 0, none⟩)) (Held.y_field (S := fun _ => True) (k := 0) (s := 0) rfl rfl Try.underlying24 rfl (by kernel_rfl) rfl _ trivial) ?_)
      | (refine wpList_store_field (w := w4) rfl 3 _ _ rfl w2.heap.size 0 rfl 24 _ (.int .i64 13) rfl q4 (by simp) (by kernel_rfl) rfl rfl ?_; intro w5 q5 g5 z5))
  have l1 := q1.lt
  have l2 := q2.lt
  have l3 := q3.lt
  have s2 := g2.size
  have s4 := g4.size
  have s5 := g5.size
  have q2 := ((q2.grown g3 (by simp)).grown g4 (by intro e; injection e with e; omega)).grown g5 (by intro e; injection e with e; omega)
  have b5 : Below w.heap.size w w5 := (((((Below.refl _ w).grown g1 (Nat.le_refl _) (by simp)).grown g2 (by omega) (fun r e => by cases e; omega)).grown g3 (by omega) (by simp)).grown g4 (by omega) (fun r e => by cases e; omega)).grown g5 (by omega) (fun r e => by cases e; omega)
  have q5 : Blk w5 w2.heap.size 24 #[.int .i64 13, .int .i64 1, .int .i64 2, .int .i64 3, .int .i64 4, .int .i64 0] := q5
  have hgb : w.heap.size ≤ w2.heap.size := by omega
  clear q1 q3 q4 g1 g2 g3 g4 g5 z1 z2 z3 z4 z5 l1 l2 l3 s2 s4 s5
  go_loopw [11, 12] (fun l i wr => ∃ (k L c : Nat) (A : Option Addr), k ≤ 5 ∧ l = .slice A L c ∧ i = .int .i64 k ∧ Hid ((List.replicate k good).length = L) ∧ OwnL kO 24 wr w5.heap.size (.slice A L c) (List.replicate k good) ∧ Below w5.heap.size w5 wr) (fun _ i _ => 5 - (intOf i).toNat)
  case atStart => exact ⟨0, 0, 0, none, by omega, rfl, rfl, Lib.hid rfl, OwnL.nil _ _ _ _, Below.refl _ _⟩
  case round =>
    obtain ⟨k, L, c, A, hk, rfl, rfl, HL, o, b⟩ := hrel
    have qg := q2.after b
    have qb := q5.after b
    by_cases hlt : k < 5
    · have hlt' : (k : Int) < 5 := by omega
      have hk0 : (0 : Int) ≤ (k : Int) := by omega
      have hS := HS.out k
      have HSk := Lib.hid hS
      clear hS
      go_wp2_with (first
        | (refine wpList_load_blk (w := wr) rfl 24 _ rfl w.heap.size 6 rfl 24 _ qg _ Try.underlying24 rfl size_op rfl ?_)
        | (refine wpList_build_lst (w := wr) (k := kO) rfl 25 24 1 _ rfl Try.underlying25 _ 48 info_op rfl [good] rfl (by kernel_rfl) (by omega) (by decide) ?_; intro v1 p1 h1 y1; have o1 := o.kept h1 (by cases (Value.slice A L c).ownBlock <;> simp); have b1 := b.grown h1 b.size (by simp); have i1 : Lst kO v1 v1.heap.size (some ⟨wr.heap.size, 0, none⟩) 1 [good] := lst_whole p1 rfl (fun x hx => by rw [List.mem_singleton.1 hx]; exact ⟨rfl, rfl, rfl, rfl, rfl, rfl⟩))
        | (at_builtin; refine wpList_append_lst (w := v1) (k := kO) rfl _ _ 25 24 rfl Try.underlying25 _ 48 info_op rfl w5.heap.size v1.heap.size wr.heap.size 0 1 1 (.slice A L c) (List.replicate k good) [good] rfl rfl o1 i1 (by simp; omega) (by omega) b1.size ?_; intro vv v2 o2 h2 t2; rw [← HSk.out] at o2; obtain ⟨A2, L2, c2, rfl, HL2, hc2⟩ := o2.form2; have b2 := b1.grown h2 b1.size (fun r e => (o1.lt r e).1); clear h1 h2 y1 p1 o1 b1 i1 t2))
      go_roundw
      case rel => exact ⟨k + 1, L2, c2, A2, by omega, rfl, by go_num, HL2, o2, b2⟩
      case measure => simp [intOf]; omega
    · have hk5 : k = 5 := by omega
      subst hk5
      obtain ⟨g, rfl, hg⟩ := own_at o (by simp)
      have hL5 : L = 5 := by rw [← HL.out]; simp
      subst hL5
      have hgl : g < wr.heap.size := (o.lt g rfl).2
      clear HL hlt
      have haddr := fun W => run_addr_of (P := Try.prog) 25 24 g 0 5 c NA 6 .i64 Try.underlying25 size_op hNA2 W
      have b := b5.trans (b.mono b5.size)
      rcases (show NP = 0 ∨ NP = 1 ∨ NP = 2 by omega) with rfl | rfl | rfl
      · go_wp2_with (first
          | (refine wpList_load_blk (w := wr) rfl 24 _ rfl w2.heap.size 6 rfl 24 _ qb _ Try.underlying24 rfl size_op rfl ?_)
          | (refine wpList_run (w := wr) rfl (v := .pointer (some ⟨g, NA * 6, none⟩)) (Held.y_addr (S := fun _ => True) rfl rfl rfl (fun W => by have := haddr W; rwa [Nat.zero_add] at this) _ trivial) ?_)
          | (refine wpList_store_lst (k := kO) (w := wr) rfl 24 _ _ rfl size_op w5.heap.size g 5 c NA (List.replicate 5 good) (⟨13, 1, 2, 3, 4, 0⟩ : O) rfl rfl o (by simp; exact hNA2) ?_; intro v1 o1 h1)
          | (refine wpList_build_blk rfl 27 _ rfl #[.int .i64 2, .slice none 0 0, .slice none 0 0, .slice none 0 0] (by kernel_rfl) ?_)
          | (refine wpList_alloc_blk (w := v1) rfl 27 rfl _ zero_prog ?_; intro v2 p2 h2 y2)
          | (refine wpList_store_blk (w := v2) rfl 27 _ _ rfl v1.heap.size 4 rfl 27 _ #[.int .i64 2, .slice none 0 0, .slice none 0 0, .slice none 0 0] rfl p2 info_prog rfl rfl (by kernel_rfl) ?_; intro v3 p3 h3 y3)
          | (refine wpList_run (w := v3) rfl (v := .pointer (some ⟨v1.heap.size, 1, none⟩)) (Held.y_field (S := fun _ => True) (k := 1) (s := 0) rfl rfl Try.underlying27 rfl (by kernel_rfl) rfl _ trivial) ?_)
          | (refine wpList_store_field (w := v3) rfl 25 _ _ rfl v1.heap.size 1 rfl 27 _ (.slice (some ⟨g, 0, none⟩) 5 c) rfl p3 (by simp) (by kernel_rfl) rfl rfl ?_; intro v4 p4 h4 y4))
        have hlv := p2.lt
        have l3v := p2.lt
        have s1v := h1.size
        have p4 : Blk v4 v1.heap.size 27 #[.int .i64 2, .slice (some ⟨g, 0, none⟩) 5 c, .slice none 0 0, .slice none 0 0] := p4
        have HB := Lib.hid (show checkB 2 (line NA (⟨13, 1, 2, 3, 4, 0⟩ : O)) [] [] = false from bad0 HM2.out)
        have HC := Lib.hid (show checkE 2 (line NA (⟨13, 1, 2, 3, 4, 0⟩ : O)) [] [] = 8 by rw [checkE, HB.out]; rfl)
        have HM := Lib.hid (show mapR 2 (line NA (⟨13, 1, 2, 3, 4, 0⟩ : O)) [] [] n 0 0 = [] by rw [mapR, HB.out]; rfl)
        have HF := Lib.hid (show foldV 2 (line NA (⟨13, 1, 2, 3, 4, 0⟩ : O)) [] [] n n = 0 by rw [foldV, HB.out]; rfl)
        have HV := Lib.hid (show finishV 2 (line NA (⟨13, 1, 2, 3, 4, 0⟩ : O)) [] [] n n = 0 by rw [finishV, HB.out]; rfl)
        have b4 : Below w.heap.size w v4 := ((b.grown h1 b.size (fun r e => by cases e; exact Nat.le_trans b5.size hg)).grown h2 (Nat.le_trans b.size s1v) (by simp)).grown h3 (Nat.le_trans b.size (by omega)) (fun r e => by cases e; exact Nat.le_trans b.size s1v) |>.grown h4 (Nat.le_trans b.size (by have := h3.size; omega)) (fun r e => by cases e; exact Nat.le_trans b.size s1v)
        have o4 := ((o1.kept h2 (.inr (by simp [Value.ownBlock]))).kept h3 (.inr (by simp [Value.ownBlock]; omega))).kept h4 (.inr (by simp [Value.ownBlock]; omega))
        have L4 : Lst kO v4 v4.heap.size (some ⟨g, 0, none⟩) 5 (line NA (⟨13, 1, 2, 3, 4, 0⟩ : O)) := OwnL.lst (c := c) o4 HLW.out
        clear o1 o4 h1 h2 h3 h4 y2 y3 y4 p2 p3 b o qg qb q2 q5 HS HGW HLW HM2 HM0 HB haddr
        refine (awake11_any v4).mono ?_
        rintro e v5 ⟨rfl, b5'⟩
        have p5 := p4.after b5'
        have L5 := (L4.below b5').more b5'.size
        have b5' := b4.trans (b5'.mono b4.size)
        clear p4 L4 b4
        go_wp2_with (refine wpList_load_blk (w := v5) rfl 27 _ rfl v1.heap.size 4 rfl 27 _ p5 _ Try.underlying27 rfl info_prog rfl ?_)
        refine (check_any v5.heap.size 2 _ _ _ _ _ _ _ _ _ (line NA (⟨13, 1, 2, 3, 4, 0⟩ : O)) [] [] v5 L5 (Lst.nil _ _ _ _) (Lst.nil _ _ _ _) (Nat.le_refl _)).mono ?_
        rintro e v6 ⟨rfl, b6⟩
        rw [HC.out]
        have p6 := p5.after b6
        have L6 := (L5.below b6).more b6.size
        have b6 := b5'.trans (b6.mono b5'.size)
        clear p5 L5 b5'
        go_wp2_with (first
          | (refine wpList_load_blk (w := v6) rfl 27 _ rfl v1.heap.size 4 rfl 27 _ p6 _ Try.underlying27 rfl info_prog rfl ?_)
          | (refine wpList_run (w := v6) rfl (v := .agg #[.int .i64 0, .int .i64 0]) (y_build (S := fun _ => True) rfl (by kernel_rfl) _ trivial) ?_))
        refine (map_any v6.heap.size 2 _ _ _ _ _ _ _ _ _ (line NA (⟨13, 1, 2, 3, 4, 0⟩ : O)) [] [] n 0 0 v6 hn rfl rfl L6 (Lst.nil _ _ _ _) (Lst.nil _ _ _ _) (Nat.le_refl _)).mono ?_
        rintro e v7 ⟨A', n', c', rfl, o7, b7⟩
        obtain ⟨A9, c9, e9, _⟩ := o7.form
        rw [HM.out] at e9
        injection e9 with e1 e2 e3
        subst e2
        have p7 := p6.after b7
        have L7 := (L6.below b7).more b7.size
        have b7 := b6.trans (b7.mono b6.size)
        clear b6 p6 L6 o7
        go_wp2_with (refine wpList_load_blk (w := v7) rfl 27 _ rfl v1.heap.size 4 rfl 27 _ p7 _ Try.underlying27 rfl info_prog rfl ?_)
        refine (fold_any v7.heap.size 2 _ _ _ _ _ _ _ _ _ (line NA (⟨13, 1, 2, 3, 4, 0⟩ : O)) [] [] n n v7 hn hn L7 (Lst.nil _ _ _ _) (Lst.nil _ _ _ _) (Nat.le_refl _)).mono ?_
        rintro e v8 ⟨rfl, b8⟩
        rw [HF.out]
        have p8 := p7.after b8
        have L8 := (L7.below b8).more b8.size
        have b8 := b7.trans (b8.mono b7.size)
        clear b7 p7 L7
        go_wp2_with (refine wpList_load_blk (w := v8) rfl 27 _ rfl v1.heap.size 4 rfl 27 _ p8 _ Try.underlying27 rfl info_prog rfl ?_)
        refine (finish_any v8.heap.size 2 _ _ _ _ _ _ _ _ _ (line NA (⟨13, 1, 2, 3, 4, 0⟩ : O)) [] [] n n v8 hn hn L8 (Lst.nil _ _ _ _) (Lst.nil _ _ _ _) (Nat.le_refl _)).mono ?_
        rintro e v9 ⟨rfl, b9⟩
        rw [HV.out]
        have b9 := b8.trans (b9.mono b8.size)
        clear b8 p8 L8
        go_wp2_with fail
        go_ret
        exact ⟨rfl, b9⟩
      · go_wp2_with (first
          | (refine wpList_load_blk (w := wr) rfl 24 _ rfl w2.heap.size 6 rfl 24 _ qb _ Try.underlying24 rfl size_op rfl ?_)
          | (refine wpList_run (w := wr) rfl (v := .pointer (some ⟨g, NA * 6, none⟩)) (Held.y_addr (S := fun _ => True) rfl rfl rfl (fun W => by have := haddr W; rwa [Nat.zero_add] at this) _ trivial) ?_)
          | (refine wpList_store_lst (k := kO) (w := wr) rfl 24 _ _ rfl size_op w5.heap.size g 5 c NA (List.replicate 5 good) (⟨13, 1, 2, 3, 4, 0⟩ : O) rfl rfl o (by simp; exact hNA2) ?_; intro v1 o1 h1)
          | (refine wpList_build_blk rfl 27 _ rfl #[.int .i64 2, .slice none 0 0, .slice none 0 0, .slice none 0 0] (by kernel_rfl) ?_)
          | (refine wpList_alloc_blk (w := v1) rfl 27 rfl _ zero_prog ?_; intro v2 p2 h2 y2)
          | (refine wpList_store_blk (w := v2) rfl 27 _ _ rfl v1.heap.size 4 rfl 27 _ #[.int .i64 2, .slice none 0 0, .slice none 0 0, .slice none 0 0] rfl p2 info_prog rfl rfl (by kernel_rfl) ?_; intro v3 p3 h3 y3)
          | (refine wpList_run (w := v3) rfl (v := .pointer (some ⟨v1.heap.size, 2, none⟩)) (Held.y_field (S := fun _ => True) (k := 2) (s := 0) rfl rfl Try.underlying27 rfl (by kernel_rfl) rfl _ trivial) ?_)
          | (refine wpList_store_field (w := v3) rfl 25 _ _ rfl v1.heap.size 2 rfl 27 _ (.slice (some ⟨g, 0, none⟩) 5 c) rfl p3 (by simp) (by kernel_rfl) rfl rfl ?_; intro v4 p4 h4 y4))
        have hlv := p2.lt
        have l3v := p2.lt
        have s1v := h1.size
        have p4 : Blk v4 v1.heap.size 27 #[.int .i64 2, .slice none 0 0, .slice (some ⟨g, 0, none⟩) 5 c, .slice none 0 0] := p4
        have HB := Lib.hid (show checkB 2 [] (line NA (⟨13, 1, 2, 3, 4, 0⟩ : O)) [] = false from bad1 HM0.out)
        have HC := Lib.hid (show checkE 2 [] (line NA (⟨13, 1, 2, 3, 4, 0⟩ : O)) [] = 8 by rw [checkE, HB.out]; rfl)
        have HM := Lib.hid (show mapR 2 [] (line NA (⟨13, 1, 2, 3, 4, 0⟩ : O)) [] n 0 0 = [] by rw [mapR, HB.out]; rfl)
        have HF := Lib.hid (show foldV 2 [] (line NA (⟨13, 1, 2, 3, 4, 0⟩ : O)) [] n n = 0 by rw [foldV, HB.out]; rfl)
        have HV := Lib.hid (show finishV 2 [] (line NA (⟨13, 1, 2, 3, 4, 0⟩ : O)) [] n n = 0 by rw [finishV, HB.out]; rfl)
        have b4 : Below w.heap.size w v4 := ((b.grown h1 b.size (fun r e => by cases e; exact Nat.le_trans b5.size hg)).grown h2 (Nat.le_trans b.size s1v) (by simp)).grown h3 (Nat.le_trans b.size (by omega)) (fun r e => by cases e; exact Nat.le_trans b.size s1v) |>.grown h4 (Nat.le_trans b.size (by have := h3.size; omega)) (fun r e => by cases e; exact Nat.le_trans b.size s1v)
        have o4 := ((o1.kept h2 (.inr (by simp [Value.ownBlock]))).kept h3 (.inr (by simp [Value.ownBlock]; omega))).kept h4 (.inr (by simp [Value.ownBlock]; omega))
        have L4 : Lst kO v4 v4.heap.size (some ⟨g, 0, none⟩) 5 (line NA (⟨13, 1, 2, 3, 4, 0⟩ : O)) := OwnL.lst (c := c) o4 HLW.out
        clear o1 o4 h1 h2 h3 h4 y2 y3 y4 p2 p3 b o qg qb q2 q5 HS HGW HLW HM2 HM0 HB haddr
        refine (awake11_any v4).mono ?_
        rintro e v5 ⟨rfl, b5'⟩
        have p5 := p4.after b5'
        have L5 := (L4.below b5').more b5'.size
        have b5' := b4.trans (b5'.mono b4.size)
        clear p4 L4 b4
        go_wp2_with (refine wpList_load_blk (w := v5) rfl 27 _ rfl v1.heap.size 4 rfl 27 _ p5 _ Try.underlying27 rfl info_prog rfl ?_)
        refine (check_any v5.heap.size 2 _ _ _ _ _ _ _ _ _ [] (line NA (⟨13, 1, 2, 3, 4, 0⟩ : O)) [] v5 (Lst.nil _ _ _ _) L5 (Lst.nil _ _ _ _) (Nat.le_refl _)).mono ?_
        rintro e v6 ⟨rfl, b6⟩
        rw [HC.out]
        have p6 := p5.after b6
        have L6 := (L5.below b6).more b6.size
        have b6 := b5'.trans (b6.mono b5'.size)
        clear p5 L5 b5'
        go_wp2_with (first
          | (refine wpList_load_blk (w := v6) rfl 27 _ rfl v1.heap.size 4 rfl 27 _ p6 _ Try.underlying27 rfl info_prog rfl ?_)
          | (refine wpList_run (w := v6) rfl (v := .agg #[.int .i64 0, .int .i64 0]) (y_build (S := fun _ => True) rfl (by kernel_rfl) _ trivial) ?_))
        refine (map_any v6.heap.size 2 _ _ _ _ _ _ _ _ _ [] (line NA (⟨13, 1, 2, 3, 4, 0⟩ : O)) [] n 0 0 v6 hn rfl rfl (Lst.nil _ _ _ _) L6 (Lst.nil _ _ _ _) (Nat.le_refl _)).mono ?_
        rintro e v7 ⟨A', n', c', rfl, o7, b7⟩
        obtain ⟨A9, c9, e9, _⟩ := o7.form
        rw [HM.out] at e9
        injection e9 with e1 e2 e3
        subst e2
        have p7 := p6.after b7
        have L7 := (L6.below b7).more b7.size
        have b7 := b6.trans (b7.mono b6.size)
        clear b6 p6 L6 o7
        go_wp2_with (refine wpList_load_blk (w := v7) rfl 27 _ rfl v1.heap.size 4 rfl 27 _ p7 _ Try.underlying27 rfl info_prog rfl ?_)
        refine (fold_any v7.heap.size 2 _ _ _ _ _ _ _ _ _ [] (line NA (⟨13, 1, 2, 3, 4, 0⟩ : O)) [] n n v7 hn hn (Lst.nil _ _ _ _) L7 (Lst.nil _ _ _ _) (Nat.le_refl _)).mono ?_
        rintro e v8 ⟨rfl, b8⟩
        rw [HF.out]
        have p8 := p7.after b8
        have L8 := (L7.below b8).more b8.size
        have b8 := b7.trans (b8.mono b7.size)
        clear b7 p7 L7
        go_wp2_with (refine wpList_load_blk (w := v8) rfl 27 _ rfl v1.heap.size 4 rfl 27 _ p8 _ Try.underlying27 rfl info_prog rfl ?_)
        refine (finish_any v8.heap.size 2 _ _ _ _ _ _ _ _ _ [] (line NA (⟨13, 1, 2, 3, 4, 0⟩ : O)) [] n n v8 hn hn (Lst.nil _ _ _ _) L8 (Lst.nil _ _ _ _) (Nat.le_refl _)).mono ?_
        rintro e v9 ⟨rfl, b9⟩
        rw [HV.out]
        have b9 := b8.trans (b9.mono b8.size)
        clear b8 p8 L8
        go_wp2_with fail
        go_ret
        exact ⟨rfl, b9⟩
      · go_wp2_with (first
          | (refine wpList_load_blk (w := wr) rfl 24 _ rfl w2.heap.size 6 rfl 24 _ qb _ Try.underlying24 rfl size_op rfl ?_)
          | (refine wpList_run (w := wr) rfl (v := .pointer (some ⟨g, NA * 6, none⟩)) (Held.y_addr (S := fun _ => True) rfl rfl rfl (fun W => by have := haddr W; rwa [Nat.zero_add] at this) _ trivial) ?_)
          | (refine wpList_store_lst (k := kO) (w := wr) rfl 24 _ _ rfl size_op w5.heap.size g 5 c NA (List.replicate 5 good) (⟨13, 1, 2, 3, 4, 0⟩ : O) rfl rfl o (by simp; exact hNA2) ?_; intro v1 o1 h1)
          | (refine wpList_build_blk rfl 27 _ rfl #[.int .i64 2, .slice none 0 0, .slice none 0 0, .slice none 0 0] (by kernel_rfl) ?_)
          | (refine wpList_alloc_blk (w := v1) rfl 27 rfl _ zero_prog ?_; intro v2 p2 h2 y2)
          | (refine wpList_store_blk (w := v2) rfl 27 _ _ rfl v1.heap.size 4 rfl 27 _ #[.int .i64 2, .slice none 0 0, .slice none 0 0, .slice none 0 0] rfl p2 info_prog rfl rfl (by kernel_rfl) ?_; intro v3 p3 h3 y3)
          | (refine wpList_run (w := v3) rfl (v := .pointer (some ⟨v1.heap.size, 3, none⟩)) (Held.y_field (S := fun _ => True) (k := 3) (s := 0) rfl rfl Try.underlying27 rfl (by kernel_rfl) rfl _ trivial) ?_)
          | (refine wpList_store_field (w := v3) rfl 25 _ _ rfl v1.heap.size 3 rfl 27 _ (.slice (some ⟨g, 0, none⟩) 5 c) rfl p3 (by simp) (by kernel_rfl) rfl rfl ?_; intro v4 p4 h4 y4))
        have hlv := p2.lt
        have l3v := p2.lt
        have s1v := h1.size
        have p4 : Blk v4 v1.heap.size 27 #[.int .i64 2, .slice none 0 0, .slice none 0 0, .slice (some ⟨g, 0, none⟩) 5 c] := p4
        have HB := Lib.hid (show checkB 2 [] [] (line NA (⟨13, 1, 2, 3, 4, 0⟩ : O)) = false from bad2 HM0.out)
        have HC := Lib.hid (show checkE 2 [] [] (line NA (⟨13, 1, 2, 3, 4, 0⟩ : O)) = 8 by rw [checkE, HB.out]; rfl)
        have HM := Lib.hid (show mapR 2 [] [] (line NA (⟨13, 1, 2, 3, 4, 0⟩ : O)) n 0 0 = [] by rw [mapR, HB.out]; rfl)
        have HF := Lib.hid (show foldV 2 [] [] (line NA (⟨13, 1, 2, 3, 4, 0⟩ : O)) n n = 0 by rw [foldV, HB.out]; rfl)
        have HV := Lib.hid (show finishV 2 [] [] (line NA (⟨13, 1, 2, 3, 4, 0⟩ : O)) n n = 0 by rw [finishV, HB.out]; rfl)
        have b4 : Below w.heap.size w v4 := ((b.grown h1 b.size (fun r e => by cases e; exact Nat.le_trans b5.size hg)).grown h2 (Nat.le_trans b.size s1v) (by simp)).grown h3 (Nat.le_trans b.size (by omega)) (fun r e => by cases e; exact Nat.le_trans b.size s1v) |>.grown h4 (Nat.le_trans b.size (by have := h3.size; omega)) (fun r e => by cases e; exact Nat.le_trans b.size s1v)
        have o4 := ((o1.kept h2 (.inr (by simp [Value.ownBlock]))).kept h3 (.inr (by simp [Value.ownBlock]; omega))).kept h4 (.inr (by simp [Value.ownBlock]; omega))
        have L4 : Lst kO v4 v4.heap.size (some ⟨g, 0, none⟩) 5 (line NA (⟨13, 1, 2, 3, 4, 0⟩ : O)) := OwnL.lst (c := c) o4 HLW.out
        clear o1 o4 h1 h2 h3 h4 y2 y3 y4 p2 p3 b o qg qb q2 q5 HS HGW HLW HM2 HM0 HB haddr
        refine (awake11_any v4).mono ?_
        rintro e v5 ⟨rfl, b5'⟩
        have p5 := p4.after b5'
        have L5 := (L4.below b5').more b5'.size
        have b5' := b4.trans (b5'.mono b4.size)
        clear p4 L4 b4
        go_wp2_with (refine wpList_load_blk (w := v5) rfl 27 _ rfl v1.heap.size 4 rfl 27 _ p5 _ Try.underlying27 rfl info_prog rfl ?_)
        refine (check_any v5.heap.size 2 _ _ _ _ _ _ _ _ _ [] [] (line NA (⟨13, 1, 2, 3, 4, 0⟩ : O)) v5 (Lst.nil _ _ _ _) (Lst.nil _ _ _ _) L5 (Nat.le_refl _)).mono ?_
        rintro e v6 ⟨rfl, b6⟩
        rw [HC.out]
        have p6 := p5.after b6
        have L6 := (L5.below b6).more b6.size
        have b6 := b5'.trans (b6.mono b5'.size)
        clear p5 L5 b5'
        go_wp2_with (first
          | (refine wpList_load_blk (w := v6) rfl 27 _ rfl v1.heap.size 4 rfl 27 _ p6 _ Try.underlying27 rfl info_prog rfl ?_)
          | (refine wpList_run (w := v6) rfl (v := .agg #[.int .i64 0, .int .i64 0]) (y_build (S := fun _ => True) rfl (by kernel_rfl) _ trivial) ?_))
        refine (map_any v6.heap.size 2 _ _ _ _ _ _ _ _ _ [] [] (line NA (⟨13, 1, 2, 3, 4, 0⟩ : O)) n 0 0 v6 hn rfl rfl (Lst.nil _ _ _ _) (Lst.nil _ _ _ _) L6 (Nat.le_refl _)).mono ?_
        rintro e v7 ⟨A', n', c', rfl, o7, b7⟩
        obtain ⟨A9, c9, e9, _⟩ := o7.form
        rw [HM.out] at e9
        injection e9 with e1 e2 e3
        subst e2
        have p7 := p6.after b7
        have L7 := (L6.below b7).more b7.size
        have b7 := b6.trans (b7.mono b6.size)
        clear b6 p6 L6 o7
        go_wp2_with (refine wpList_load_blk (w := v7) rfl 27 _ rfl v1.heap.size 4 rfl 27 _ p7 _ Try.underlying27 rfl info_prog rfl ?_)
        refine (fold_any v7.heap.size 2 _ _ _ _ _ _ _ _ _ [] [] (line NA (⟨13, 1, 2, 3, 4, 0⟩ : O)) n n v7 hn hn (Lst.nil _ _ _ _) (Lst.nil _ _ _ _) L7 (Nat.le_refl _)).mono ?_
        rintro e v8 ⟨rfl, b8⟩
        rw [HF.out]
        have p8 := p7.after b8
        have L8 := (L7.below b8).more b8.size
        have b8 := b7.trans (b8.mono b7.size)
        clear b7 p7 L7
        go_wp2_with (refine wpList_load_blk (w := v8) rfl 27 _ rfl v1.heap.size 4 rfl 27 _ p8 _ Try.underlying27 rfl info_prog rfl ?_)
        refine (finish_any v8.heap.size 2 _ _ _ _ _ _ _ _ _ [] [] (line NA (⟨13, 1, 2, 3, 4, 0⟩ : O)) n n v8 hn hn (Lst.nil _ _ _ _) (Lst.nil _ _ _ _) L8 (Nat.le_refl _)).mono ?_
        rintro e v9 ⟨rfl, b9⟩
        rw [HV.out]
        have b9 := b8.trans (b9.mono b8.size)
        clear b8 p8 L8
        go_wp2_with fail
        go_ret
        exact ⟨rfl, b9⟩
set_option maxRecDepth 100000 in
set_option maxHeartbeats 16000000 in
theorem start1 (xp xa xw n : Int) (w : World) (hn : (Lit.int .i64 n).wf = true) (NP NA : Nat) (hNP : wrap64 ((IntKind.u64.wrap xp).tmod 3) = (NP : Int)) (hNP2 : NP < 3) (hNA : wrap64 ((IntKind.u64.wrap xa).tmod 5) = (NA : Int)) (hNA2 : NA < 5) (hW : (IntKind.u64.wrap xw).tmod 7 = 1) :
    Calls Try.prog 5 #[.int .i64 xp, .int .i64 xa, .int .i64 xw, .int .i64 n] w fun e w' => e = .returned (.bool true) ∧ Below w.heap.size w w' := by
  have HM2 := Lib.hid (show mayP (line NA (⟨2, 8, 2, 3, 4, 0⟩ : O)) 2 = false from line_may hNA2 (by decide))
  have HM0 := Lib.hid (show mayP (line NA (⟨2, 8, 2, 3, 4, 0⟩ : O)) 0 = false from line_may hNA2 (by decide))
  have HLW := Lib.hid (line_wf (i := NA) (b := (⟨2, 8, 2, 3, 4, 0⟩ : O)) ⟨rfl, rfl, rfl, rfl, rfl, rfl⟩)
  have HGW := Lib.hid (show ∀ o ∈ List.replicate 5 good, o.wf from fun o ho => by rw [List.eq_of_mem_replicate ho]; exact ⟨rfl, rfl, rfl, rfl, rfl, rfl⟩)
  have HS := Lib.hid (fun k : Nat => (show List.replicate (k + 1) good = List.replicate k good ++ [good] by rw [List.replicate_succ']))
  go_enter Try.func5, Try.ntmps5
  go_wp2_with (first
      | (refine wpList_build_blk rfl 24 #[_, _, _, _, _] rfl #[.int .i64 2, .int .i64 1, .int .i64 2, .int .i64 3, .int .i64 4, .int .i64 0] (by kernel_rfl) ?_)
      | (refine wpList_alloc_blk (w := w) rfl 24 rfl _ zero_op ?_; intro w1 q1 g1 z1)
      | (refine wpList_store_blk (w := w1) rfl 24 _ _ rfl w.heap.size 6 rfl 24 _ #[.int .i64 2, .int .i64 1, .int .i64 2, .int .i64 3, .int .i64 4, .int .i64 0] rfl q1 size_op rfl rfl (by kernel_rfl) ?_; intro w2 q2 g2 z2)
      | (refine wpList_load_blk (w := w2) rfl 24 _ rfl w.heap.size 6 rfl 24 _ q2 _ Try.underlying24 rfl size_op rfl ?_)
      | (refine wpList_alloc_blk (w := w2) rfl 24 rfl _ zero_op ?_; intro w3 q3 g3 z3)
      | (refine wpList_store_blk (w := w3) rfl 24 _ _ rfl w2.heap.size 6 rfl 24 _ #[.int .i64 2, .int .i64 1, .int .i64 2, .int .i64 3, .int .i64 4, .int .i64 0] rfl q3 size_op rfl rfl (by kernel_rfl) ?_; intro w4 q4 g4 z4)
      | (refine wpList_run (w := w4) rfl (v := .pointer (some ⟨w2.heap.size, 1, none⟩)) (Held.y_field (S := fun _ => True) (k := 1) (s := 0) rfl rfl Try.underlying24 rfl (by kernel_rfl) rfl _ trivial) ?_)
      | (refine wpList_store_field (w := w4) rfl 3 _ _ rfl w2.heap.size 1 rfl 24 _ (.int .i64 8) rfl q4 (by simp) (by kernel_rfl) rfl rfl ?_; intro w5 q5 g5 z5))
  have l1 := q1.lt
  have l2 := q2.lt
  have l3 := q3.lt
  have s2 := g2.size
  have s4 := g4.size
  have s5 := g5.size
  have q2 := ((q2.grown g3 (by simp)).grown g4 (by intro e; injection e with e; omega)).grown g5 (by intro e; injection e with e; omega)
  have b5 : Below w.heap.size w w5 := (((((Below.refl _ w).grown g1 (Nat.le_refl _) (by simp)).grown g2 (by omega) (fun r e => by cases e; omega)).grown g3 (by omega) (by simp)).grown g4 (by omega) (fun r e => by cases e; omega)).grown g5 (by omega) (fun r e => by cases e; omega)
  have q5 : Blk w5 w2.heap.size 24 #[.int .i64 2, .int .i64 8, .int .i64 2, .int .i64 3, .int .i64 4, .int .i64 0] := q5
  have hgb : w.heap.size ≤ w2.heap.size := by omega
  clear q1 q3 q4 g1 g2 g3 g4 g5 z1 z2 z3 z4 z5 l1 l2 l3 s2 s4 s5
  go_loopw [11, 12] (fun l i wr => ∃ (k L c : Nat) (A : Option Addr), k ≤ 5 ∧ l = .slice A L c ∧ i = .int .i64 k ∧ Hid ((List.replicate k good).length = L) ∧ OwnL kO 24 wr w5.heap.size (.slice A L c) (List.replicate k good) ∧ Below w5.heap.size w5 wr) (fun _ i _ => 5 - (intOf i).toNat)
  case atStart => exact ⟨0, 0, 0, none, by omega, rfl, rfl, Lib.hid rfl, OwnL.nil _ _ _ _, Below.refl _ _⟩
  case round =>
    obtain ⟨k, L, c, A, hk, rfl, rfl, HL, o, b⟩ := hrel
    have qg := q2.after b
    have qb := q5.after b
    by_cases hlt : k < 5
    · have hlt' : (k : Int) < 5 := by omega
      have hk0 : (0 : Int) ≤ (k : Int) := by omega
      have hS := HS.out k
      have HSk := Lib.hid hS
      clear hS
      go_wp2_with (first
        | (refine wpList_load_blk (w := wr) rfl 24 _ rfl w.heap.size 6 rfl 24 _ qg _ Try.underlying24 rfl size_op rfl ?_)
        | (refine wpList_build_lst (w := wr) (k := kO) rfl 25 24 1 _ rfl Try.underlying25 _ 48 info_op rfl [good] rfl (by kernel_rfl) (by omega) (by decide) ?_; intro v1 p1 h1 y1; have o1 := o.kept h1 (by cases (Value.slice A L c).ownBlock <;> simp); have b1 := b.grown h1 b.size (by simp); have i1 : Lst kO v1 v1.heap.size (some ⟨wr.heap.size, 0, none⟩) 1 [good] := lst_whole p1 rfl (fun x hx => by rw [List.mem_singleton.1 hx]; exact ⟨rfl, rfl, rfl, rfl, rfl, rfl⟩))
        | (at_builtin; refine wpList_append_lst (w := v1) (k := kO) rfl _ _ 25 24 rfl Try.underlying25 _ 48 info_op rfl w5.heap.size v1.heap.size wr.heap.size 0 1 1 (.slice A L c) (List.replicate k good) [good] rfl rfl o1 i1 (by simp; omega) (by omega) b1.size ?_; intro vv v2 o2 h2 t2; rw [← HSk.out] at o2; obtain ⟨A2, L2, c2, rfl, HL2, hc2⟩ := o2.form2; have b2 := b1.grown h2 b1.size (fun r e => (o1.lt r e).1); clear h1 h2 y1 p1 o1 b1 i1 t2))
      go_roundw
      case rel => exact ⟨k + 1, L2, c2, A2, by omega, rfl, by go_num, HL2, o2, b2⟩
      case measure => simp [intOf]; omega
    · have hk5 : k = 5 := by omega
      subst hk5
      obtain ⟨g, rfl, hg⟩ := own_at o (by simp)
      have hL5 : L = 5 := by rw [← HL.out]; simp
      subst hL5
      have hgl : g < wr.heap.size := (o.lt g rfl).2
      clear HL hlt
      have haddr := fun W => run_addr_of (P := Try.prog) 25 24 g 0 5 c NA 6 .i64 Try.underlying25 size_op hNA2 W
      have b := b5.trans (b.mono b5.size)
      rcases (show NP = 0 ∨ NP = 1 ∨ NP = 2 by omega) with rfl | rfl | rfl
      · go_wp2_with (first
          | (refine wpList_load_blk (w := wr) rfl 24 _ rfl w2.heap.size 6 rfl 24 _ qb _ Try.underlying24 rfl size_op rfl ?_)
          | (refine wpList_run (w := wr) rfl (v := .pointer (some ⟨g, NA * 6, none⟩)) (Held.y_addr (S := fun _ => True) rfl rfl rfl (fun W => by have := haddr W; rwa [Nat.zero_add] at this) _ trivial) ?_)
          | (refine wpList_store_lst (k := kO) (w := wr) rfl 24 _ _ rfl size_op w5.heap.size g 5 c NA (List.replicate 5 good) (⟨2, 8, 2, 3, 4, 0⟩ : O) rfl rfl o (by simp; exact hNA2) ?_; intro v1 o1 h1)
          | (refine wpList_build_blk rfl 27 _ rfl #[.int .i64 2, .slice none 0 0, .slice none 0 0, .slice none 0 0] (by kernel_rfl) ?_)
          | (refine wpList_alloc_blk (w := v1) rfl 27 rfl _ zero_prog ?_; intro v2 p2 h2 y2)
          | (refine wpList_store_blk (w := v2) rfl 27 _ _ rfl v1.heap.size 4 rfl 27 _ #[.int .i64 2, .slice none 0 0, .slice none 0 0, .slice none 0 0] rfl p2 info_prog rfl rfl (by kernel_rfl) ?_; intro v3 p3 h3 y3)
          | (refine wpList_run (w := v3) rfl (v := .pointer (some ⟨v1.heap.size, 1, none⟩)) (Held.y_field (S := fun _ => True) (k := 1) (s := 0) rfl rfl Try.underlying27 rfl (by kernel_rfl) rfl _ trivial) ?_)
          | (refine wpList_store_field (w := v3) rfl 25 _ _ rfl v1.heap.size 1 rfl 27 _ (.slice (some ⟨g, 0, none⟩) 5 c) rfl p3 (by simp) (by kernel_rfl) rfl rfl ?_; intro v4 p4 h4 y4))
        have hlv := p2.lt
        have l3v := p2.lt
        have s1v := h1.size
        have p4 : Blk v4 v1.heap.size 27 #[.int .i64 2, .slice (some ⟨g, 0, none⟩) 5 c, .slice none 0 0, .slice none 0 0] := p4
        have HB := Lib.hid (show checkB 2 (line NA (⟨2, 8, 2, 3, 4, 0⟩ : O)) [] [] = false from bad0 HM2.out)
        have HC := Lib.hid (show checkE 2 (line NA (⟨2, 8, 2, 3, 4, 0⟩ : O)) [] [] = 8 by rw [checkE, HB.out]; rfl)
        have HM := Lib.hid (show mapR 2 (line NA (⟨2, 8, 2, 3, 4, 0⟩ : O)) [] [] n 0 0 = [] by rw [mapR, HB.out]; rfl)
        have HF := Lib.hid (show foldV 2 (line NA (⟨2, 8, 2, 3, 4, 0⟩ : O)) [] [] n n = 0 by rw [foldV, HB.out]; rfl)
        have HV := Lib.hid (show finishV 2 (line NA (⟨2, 8, 2, 3, 4, 0⟩ : O)) [] [] n n = 0 by rw [finishV, HB.out]; rfl)
        have b4 : Below w.heap.size w v4 := ((b.grown h1 b.size (fun r e => by cases e; exact Nat.le_trans b5.size hg)).grown h2 (Nat.le_trans b.size s1v) (by simp)).grown h3 (Nat.le_trans b.size (by omega)) (fun r e => by cases e; exact Nat.le_trans b.size s1v) |>.grown h4 (Nat.le_trans b.size (by have := h3.size; omega)) (fun r e => by cases e; exact Nat.le_trans b.size s1v)
        have o4 := ((o1.kept h2 (.inr (by simp [Value.ownBlock]))).kept h3 (.inr (by simp [Value.ownBlock]; omega))).kept h4 (.inr (by simp [Value.ownBlock]; omega))
        have L4 : Lst kO v4 v4.heap.size (some ⟨g, 0, none⟩) 5 (line NA (⟨2, 8, 2, 3, 4, 0⟩ : O)) := OwnL.lst (c := c) o4 HLW.out
        clear o1 o4 h1 h2 h3 h4 y2 y3 y4 p2 p3 b o qg qb q2 q5 HS HGW HLW HM2 HM0 HB haddr
        refine (awake11_any v4).mono ?_
        rintro e v5 ⟨rfl, b5'⟩
        have p5 := p4.after b5'
        have L5 := (L4.below b5').more b5'.size
        have b5' := b4.trans (b5'.mono b4.size)
        clear p4 L4 b4
        go_wp2_with (refine wpList_load_blk (w := v5) rfl 27 _ rfl v1.heap.size 4 rfl 27 _ p5 _ Try.underlying27 rfl info_prog rfl ?_)
        refine (check_any v5.heap.size 2 _ _ _ _ _ _ _ _ _ (line NA (⟨2, 8, 2, 3, 4, 0⟩ : O)) [] [] v5 L5 (Lst.nil _ _ _ _) (Lst.nil _ _ _ _) (Nat.le_refl _)).mono ?_
        rintro e v6 ⟨rfl, b6⟩
        rw [HC.out]
        have p6 := p5.after b6
        have L6 := (L5.below b6).more b6.size
        have b6 := b5'.trans (b6.mono b5'.size)
        clear p5 L5 b5'
        go_wp2_with (first
          | (refine wpList_load_blk (w := v6) rfl 27 _ rfl v1.heap.size 4 rfl 27 _ p6 _ Try.underlying27 rfl info_prog rfl ?_)
          | (refine wpList_run (w := v6) rfl (v := .agg #[.int .i64 0, .int .i64 0]) (y_build (S := fun _ => True) rfl (by kernel_rfl) _ trivial) ?_))
        refine (map_any v6.heap.size 2 _ _ _ _ _ _ _ _ _ (line NA (⟨2, 8, 2, 3, 4, 0⟩ : O)) [] [] n 0 0 v6 hn rfl rfl L6 (Lst.nil _ _ _ _) (Lst.nil _ _ _ _) (Nat.le_refl _)).mono ?_
        rintro e v7 ⟨A', n', c', rfl, o7, b7⟩
        obtain ⟨A9, c9, e9, _⟩ := o7.form
        rw [HM.out] at e9
        injection e9 with e1 e2 e3
        subst e2
        have p7 := p6.after b7
        have L7 := (L6.below b7).more b7.size
        have b7 := b6.trans (b7.mono b6.size)
        clear b6 p6 L6 o7
        go_wp2_with (refine wpList_load_blk (w := v7) rfl 27 _ rfl v1.heap.size 4 rfl 27 _ p7 _ Try.underlying27 rfl info_prog rfl ?_)
        refine (fold_any v7.heap.size 2 _ _ _ _ _ _ _ _ _ (line NA (⟨2, 8, 2, 3, 4, 0⟩ : O)) [] [] n n v7 hn hn L7 (Lst.nil _ _ _ _) (Lst.nil _ _ _ _) (Nat.le_refl _)).mono ?_
        rintro e v8 ⟨rfl, b8⟩
        rw [HF.out]
        have p8 := p7.after b8
        have L8 := (L7.below b8).more b8.size
        have b8 := b7.trans (b8.mono b7.size)
        clear b7 p7 L7
        go_wp2_with (refine wpList_load_blk (w := v8) rfl 27 _ rfl v1.heap.size 4 rfl 27 _ p8 _ Try.underlying27 rfl info_prog rfl ?_)
        refine (finish_any v8.heap.size 2 _ _ _ _ _ _ _ _ _ (line NA (⟨2, 8, 2, 3, 4, 0⟩ : O)) [] [] n n v8 hn hn L8 (Lst.nil _ _ _ _) (Lst.nil _ _ _ _) (Nat.le_refl _)).mono ?_
        rintro e v9 ⟨rfl, b9⟩
        rw [HV.out]
        have b9 := b8.trans (b9.mono b8.size)
        clear b8 p8 L8
        go_wp2_with fail
        go_ret
        exact ⟨rfl, b9⟩
      · go_wp2_with (first
          | (refine wpList_load_blk (w := wr) rfl 24 _ rfl w2.heap.size 6 rfl 24 _ qb _ Try.underlying24 rfl size_op rfl ?_)
          | (refine wpList_run (w := wr) rfl (v := .pointer (some ⟨g, NA * 6, none⟩)) (Held.y_addr (S := fun _ => True) rfl rfl rfl (fun W => by have := haddr W; rwa [Nat.zero_add] at this) _ trivial) ?_)
          | (refine wpList_store_lst (k := kO) (w := wr) rfl 24 _ _ rfl size_op w5.heap.size g 5 c NA (List.replicate 5 good) (⟨2, 8, 2, 3, 4, 0⟩ : O) rfl rfl o (by simp; exact hNA2) ?_; intro v1 o1 h1)
          | (refine wpList_build_blk rfl 27 _ rfl #[.int .i64 2, .slice none 0 0, .slice none 0 0, .slice none 0 0] (by kernel_rfl) ?_)
          | (refine wpList_alloc_blk (w := v1) rfl 27 rfl _ zero_prog ?_; intro v2 p2 h2 y2)
          | (refine wpList_store_blk (w := v2) rfl 27 _ _ rfl v1.heap.size 4 rfl 27 _ #[.int .i64 2, .slice none 0 0, .slice none 0 0, .slice none 0 0] rfl p2 info_prog rfl rfl (by kernel_rfl) ?_; intro v3 p3 h3 y3)
          | (refine wpList_run (w := v3) rfl (v := .pointer (some ⟨v1.heap.size, 2, none⟩)) (Held.y_field (S := fun _ => True) (k := 2) (s := 0) rfl rfl Try.underlying27 rfl (by kernel_rfl) rfl _ trivial) ?_)
          | (refine wpList_store_field (w := v3) rfl 25 _ _ rfl v1.heap.size 2 rfl 27 _ (.slice (some ⟨g, 0, none⟩) 5 c) rfl p3 (by simp) (by kernel_rfl) rfl rfl ?_; intro v4 p4 h4 y4))
        have hlv := p2.lt
        have l3v := p2.lt
        have s1v := h1.size
        have p4 : Blk v4 v1.heap.size 27 #[.int .i64 2, .slice none 0 0, .slice (some ⟨g, 0, none⟩) 5 c, .slice none 0 0] := p4
        have HB := Lib.hid (show checkB 2 [] (line NA (⟨2, 8, 2, 3, 4, 0⟩ : O)) [] = false from bad1 HM0.out)
        have HC := Lib.hid (show checkE 2 [] (line NA (⟨2, 8, 2, 3, 4, 0⟩ : O)) [] = 8 by rw [checkE, HB.out]; rfl)
        have HM := Lib.hid (show mapR 2 [] (line NA (⟨2, 8, 2, 3, 4, 0⟩ : O)) [] n 0 0 = [] by rw [mapR, HB.out]; rfl)
        have HF := Lib.hid (show foldV 2 [] (line NA (⟨2, 8, 2, 3, 4, 0⟩ : O)) [] n n = 0 by rw [foldV, HB.out]; rfl)
        have HV := Lib.hid (show finishV 2 [] (line NA (⟨2, 8, 2, 3, 4, 0⟩ : O)) [] n n = 0 by rw [finishV, HB.out]; rfl)
        have b4 : Below w.heap.size w v4 := ((b.grown h1 b.size (fun r e => by cases e; exact Nat.le_trans b5.size hg)).grown h2 (Nat.le_trans b.size s1v) (by simp)).grown h3 (Nat.le_trans b.size (by omega)) (fun r e => by cases e; exact Nat.le_trans b.size s1v) |>.grown h4 (Nat.le_trans b.size (by have := h3.size; omega)) (fun r e => by cases e; exact Nat.le_trans b.size s1v)
        have o4 := ((o1.kept h2 (.inr (by simp [Value.ownBlock]))).kept h3 (.inr (by simp [Value.ownBlock]; omega))).kept h4 (.inr (by simp [Value.ownBlock]; omega))
        have L4 : Lst kO v4 v4.heap.size (some ⟨g, 0, none⟩) 5 (line NA (⟨2, 8, 2, 3, 4, 0⟩ : O)) := OwnL.lst (c := c) o4 HLW.out
        clear o1 o4 h1 h2 h3 h4 y2 y3 y4 p2 p3 b o qg qb q2 q5 HS HGW HLW HM2 HM0 HB haddr
        refine (awake11_any v4).mono ?_
        rintro e v5 ⟨rfl, b5'⟩
        have p5 := p4.after b5'
        have L5 := (L4.below b5').more b5'.size
        have b5' := b4.trans (b5'.mono b4.size)
        clear p4 L4 b4
        go_wp2_with (refine wpList_load_blk (w := v5) rfl 27 _ rfl v1.heap.size 4 rfl 27 _ p5 _ Try.underlying27 rfl info_prog rfl ?_)
        refine (check_any v5.heap.size 2 _ _ _ _ _ _ _ _ _ [] (line NA (⟨2, 8, 2, 3, 4, 0⟩ : O)) [] v5 (Lst.nil _ _ _ _) L5 (Lst.nil _ _ _ _) (Nat.le_refl _)).mono ?_
        rintro e v6 ⟨rfl, b6⟩
        rw [HC.out]
        have p6 := p5.after b6
        have L6 := (L5.below b6).more b6.size
        have b6 := b5'.trans (b6.mono b5'.size)
        clear p5 L5 b5'
        go_wp2_with (first
          | (refine wpList_load_blk (w := v6) rfl 27 _ rfl v1.heap.size 4 rfl 27 _ p6 _ Try.underlying27 rfl info_prog rfl ?_)
          | (refine wpList_run (w := v6) rfl (v := .agg #[.int .i64 0, .int .i64 0]) (y_build (S := fun _ => True) rfl (by kernel_rfl) _ trivial) ?_))
        refine (map_any v6.heap.size 2 _ _ _ _ _ _ _ _ _ [] (line NA (⟨2, 8, 2, 3, 4, 0⟩ : O)) [] n 0 0 v6 hn rfl rfl (Lst.nil _ _ _ _) L6 (Lst.nil _ _ _ _) (Nat.le_refl _)).mono ?_
        rintro e v7 ⟨A', n', c', rfl, o7, b7⟩
        obtain ⟨A9, c9, e9, _⟩ := o7.form
        rw [HM.out] at e9
        injection e9 with e1 e2 e3
        subst e2
        have p7 := p6.after b7
        have L7 := (L6.below b7).more b7.size
        have b7 := b6.trans (b7.mono b6.size)
        clear b6 p6 L6 o7
        go_wp2_with (refine wpList_load_blk (w := v7) rfl 27 _ rfl v1.heap.size 4 rfl 27 _ p7 _ Try.underlying27 rfl info_prog rfl ?_)
        refine (fold_any v7.heap.size 2 _ _ _ _ _ _ _ _ _ [] (line NA (⟨2, 8, 2, 3, 4, 0⟩ : O)) [] n n v7 hn hn (Lst.nil _ _ _ _) L7 (Lst.nil _ _ _ _) (Nat.le_refl _)).mono ?_
        rintro e v8 ⟨rfl, b8⟩
        rw [HF.out]
        have p8 := p7.after b8
        have L8 := (L7.below b8).more b8.size
        have b8 := b7.trans (b8.mono b7.size)
        clear b7 p7 L7
        go_wp2_with (refine wpList_load_blk (w := v8) rfl 27 _ rfl v1.heap.size 4 rfl 27 _ p8 _ Try.underlying27 rfl info_prog rfl ?_)
        refine (finish_any v8.heap.size 2 _ _ _ _ _ _ _ _ _ [] (line NA (⟨2, 8, 2, 3, 4, 0⟩ : O)) [] n n v8 hn hn (Lst.nil _ _ _ _) L8 (Lst.nil _ _ _ _) (Nat.le_refl _)).mono ?_
        rintro e v9 ⟨rfl, b9⟩
        rw [HV.out]
        have b9 := b8.trans (b9.mono b8.size)
        clear b8 p8 L8
        go_wp2_with fail
        go_ret
        exact ⟨rfl, b9⟩
      · go_wp2_with (first
          | (refine wpList_load_blk (w := wr) rfl 24 _ rfl w2.heap.size 6 rfl 24 _ qb _ Try.underlying24 rfl size_op rfl ?_)
          | (refine wpList_run (w := wr) rfl (v := .pointer (some ⟨g, NA * 6, none⟩)) (Held.y_addr (S := fun _ => True) rfl rfl rfl (fun W => by have := haddr W; rwa [Nat.zero_add] at this) _ trivial) ?_)
          | (refine wpList_store_lst (k := kO) (w := wr) rfl 24 _ _ rfl size_op w5.heap.size g 5 c NA (List.replicate 5 good) (⟨2, 8, 2, 3, 4, 0⟩ : O) rfl rfl o (by simp; exact hNA2) ?_; intro v1 o1 h1)
          | (refine wpList_build_blk rfl 27 _ rfl #[.int .i64 2, .slice none 0 0, .slice none 0 0, .slice none 0 0] (by kernel_rfl) ?_)
          | (refine wpList_alloc_blk (w := v1) rfl 27 rfl _ zero_prog ?_; intro v2 p2 h2 y2)
          | (refine wpList_store_blk (w := v2) rfl 27 _ _ rfl v1.heap.size 4 rfl 27 _ #[.int .i64 2, .slice none 0 0, .slice none 0 0, .slice none 0 0] rfl p2 info_prog rfl rfl (by kernel_rfl) ?_; intro v3 p3 h3 y3)
          | (refine wpList_run (w := v3) rfl (v := .pointer (some ⟨v1.heap.size, 3, none⟩)) (Held.y_field (S := fun _ => True) (k := 3) (s := 0) rfl rfl Try.underlying27 rfl (by kernel_rfl) rfl _ trivial) ?_)
          | (refine wpList_store_field (w := v3) rfl 25 _ _ rfl v1.heap.size 3 rfl 27 _ (.slice (some ⟨g, 0, none⟩) 5 c) rfl p3 (by simp) (by kernel_rfl) rfl rfl ?_; intro v4 p4 h4 y4))
        have hlv := p2.lt
        have l3v := p2.lt
        have s1v := h1.size
        have p4 : Blk v4 v1.heap.size 27 #[.int .i64 2, .slice none 0 0, .slice none 0 0, .slice (some ⟨g, 0, none⟩) 5 c] := p4
        have HB := Lib.hid (show checkB 2 [] [] (line NA (⟨2, 8, 2, 3, 4, 0⟩ : O)) = false from bad2 HM0.out)
        have HC := Lib.hid (show checkE 2 [] [] (line NA (⟨2, 8, 2, 3, 4, 0⟩ : O)) = 8 by rw [checkE, HB.out]; rfl)
        have HM := Lib.hid (show mapR 2 [] [] (line NA (⟨2, 8, 2, 3, 4, 0⟩ : O)) n 0 0 = [] by rw [mapR, HB.out]; rfl)
        have HF := Lib.hid (show foldV 2 [] [] (line NA (⟨2, 8, 2, 3, 4, 0⟩ : O)) n n = 0 by rw [foldV, HB.out]; rfl)
        have HV := Lib.hid (show finishV 2 [] [] (line NA (⟨2, 8, 2, 3, 4, 0⟩ : O)) n n = 0 by rw [finishV, HB.out]; rfl)
        have b4 : Below w.heap.size w v4 := ((b.grown h1 b.size (fun r e => by cases e; exact Nat.le_trans b5.size hg)).grown h2 (Nat.le_trans b.size s1v) (by simp)).grown h3 (Nat.le_trans b.size (by omega)) (fun r e => by cases e; exact Nat.le_trans b.size s1v) |>.grown h4 (Nat.le_trans b.size (by have := h3.size; omega)) (fun r e => by cases e; exact Nat.le_trans b.size s1v)
        have o4 := ((o1.kept h2 (.inr (by simp [Value.ownBlock]))).kept h3 (.inr (by simp [Value.ownBlock]; omega))).kept h4 (.inr (by simp [Value.ownBlock]; omega))
        have L4 : Lst kO v4 v4.heap.size (some ⟨g, 0, none⟩) 5 (line NA (⟨2, 8, 2, 3, 4, 0⟩ : O)) := OwnL.lst (c := c) o4 HLW.out
        clear o1 o4 h1 h2 h3 h4 y2 y3 y4 p2 p3 b o qg qb q2 q5 HS HGW HLW HM2 HM0 HB haddr
        refine (awake11_any v4).mono ?_
        rintro e v5 ⟨rfl, b5'⟩
        have p5 := p4.after b5'
        have L5 := (L4.below b5').more b5'.size
        have b5' := b4.trans (b5'.mono b4.size)
        clear p4 L4 b4
        go_wp2_with (refine wpList_load_blk (w := v5) rfl 27 _ rfl v1.heap.size 4 rfl 27 _ p5 _ Try.underlying27 rfl info_prog rfl ?_)
        refine (check_any v5.heap.size 2 _ _ _ _ _ _ _ _ _ [] [] (line NA (⟨2, 8, 2, 3, 4, 0⟩ : O)) v5 (Lst.nil _ _ _ _) (Lst.nil _ _ _ _) L5 (Nat.le_refl _)).mono ?_
        rintro e v6 ⟨rfl, b6⟩
        rw [HC.out]
        have p6 := p5.after b6
        have L6 := (L5.below b6).more b6.size
        have b6 := b5'.trans (b6.mono b5'.size)
        clear p5 L5 b5'
        go_wp2_with (first
          | (refine wpList_load_blk (w := v6) rfl 27 _ rfl v1.heap.size 4 rfl 27 _ p6 _ Try.underlying27 rfl info_prog rfl ?_)
          | (refine wpList_run (w := v6) rfl (v := .agg #[.int .i64 0, .int .i64 0]) (y_build (S := fun _ => True) rfl (by kernel_rfl) _ trivial) ?_))
        refine (map_any v6.heap.size 2 _ _ _ _ _ _ _ _ _ [] [] (line NA (⟨2, 8, 2, 3, 4, 0⟩ : O)) n 0 0 v6 hn rfl rfl (Lst.nil _ _ _ _) (Lst.nil _ _ _ _) L6 (Nat.le_refl _)).mono ?_
        rintro e v7 ⟨A', n', c', rfl, o7, b7⟩
        obtain ⟨A9, c9, e9, _⟩ := o7.form
        rw [HM.out] at e9
        injection e9 with e1 e2 e3
        subst e2
        have p7 := p6.after b7
        have L7 := (L6.below b7).more b7.size
        have b7 := b6.trans (b7.mono b6.size)
        clear b6 p6 L6 o7
        go_wp2_with (refine wpList_load_blk (w := v7) rfl 27 _ rfl v1.heap.size 4 rfl 27 _ p7 _ Try.underlying27 rfl info_prog rfl ?_)
        refine (fold_any v7.heap.size 2 _ _ _ _ _ _ _ _ _ [] [] (line NA (⟨2, 8, 2, 3, 4, 0⟩ : O)) n n v7 hn hn (Lst.nil _ _ _ _) (Lst.nil _ _ _ _) L7 (Nat.le_refl _)).mono ?_
        rintro e v8 ⟨rfl, b8⟩
        rw [HF.out]
        have p8 := p7.after b8
        have L8 := (L7.below b8).more b8.size
        have b8 := b7.trans (b8.mono b7.size)
        clear b7 p7 L7
        go_wp2_with (refine wpList_load_blk (w := v8) rfl 27 _ rfl v1.heap.size 4 rfl 27 _ p8 _ Try.underlying27 rfl info_prog rfl ?_)
        refine (finish_any v8.heap.size 2 _ _ _ _ _ _ _ _ _ [] [] (line NA (⟨2, 8, 2, 3, 4, 0⟩ : O)) n n v8 hn hn (Lst.nil _ _ _ _) (Lst.nil _ _ _ _) L8 (Nat.le_refl _)).mono ?_
        rintro e v9 ⟨rfl, b9⟩
        rw [HV.out]
        have b9 := b8.trans (b9.mono b8.size)
        clear b8 p8 L8
        go_wp2_with fail
        go_ret
        exact ⟨rfl, b9⟩
set_option maxRecDepth 100000 in
set_option maxHeartbeats 16000000 in
theorem start2 (xp xa xw n : Int) (w : World) (hn : (Lit.int .i64 n).wf = true) (NP NA : Nat) (hNP : wrap64 ((IntKind.u64.wrap xp).tmod 3) = (NP : Int)) (hNP2 : NP < 3) (hNA : wrap64 ((IntKind.u64.wrap xa).tmod 5) = (NA : Int)) (hNA2 : NA < 5) (hW : (IntKind.u64.wrap xw).tmod 7 = 2) :
    Calls Try.prog 5 #[.int .i64 xp, .int .i64 xa, .int .i64 xw, .int .i64 n] w fun e w' => e = .returned (.bool true) ∧ Below w.heap.size w w' := by
  have HM2 := Lib.hid (show mayP (line NA (⟨2, 1, -1, 3, 4, 0⟩ : O)) 2 = false from line_may hNA2 (by decide))
  have HM0 := Lib.hid (show mayP (line NA (⟨2, 1, -1, 3, 4, 0⟩ : O)) 0 = false from line_may hNA2 (by decide))
  have HLW := Lib.hid (line_wf (i := NA) (b := (⟨2, 1, -1, 3, 4, 0⟩ : O)) ⟨rfl, rfl, rfl, rfl, rfl, rfl⟩)
  have HGW := Lib.hid (show ∀ o ∈ List.replicate 5 good, o.wf from fun o ho => by rw [List.eq_of_mem_replicate ho]; exact ⟨rfl, rfl, rfl, rfl, rfl, rfl⟩)
  have HS := Lib.hid (fun k : Nat => (show List.replicate (k + 1) good = List.replicate k good ++ [good] by rw [List.replicate_succ']))
  go_enter Try.func5, Try.ntmps5
  go_wp2_with (first
      | (refine wpList_build_blk rfl 24 #[_, _, _, _, _] rfl #[.int .i64 2, .int .i64 1, .int .i64 2, .int .i64 3, .int .i64 4, .int .i64 0] (by kernel_rfl) ?_)
      | (refine wpList_alloc_blk (w := w) rfl 24 rfl _ zero_op ?_; intro w1 q1 g1 z1)
      | (refine wpList_store_blk (w := w1) rfl 24 _ _ rfl w.heap.size 6 rfl 24 _ #[.int .i64 2, .int .i64 1, .int .i64 2, .int .i64 3, .int .i64 4, .int .i64 0] rfl q1 size_op rfl rfl (by kernel_rfl) ?_; intro w2 q2 g2 z2)
      | (refine wpList_load_blk (w := w2) rfl 24 _ rfl w.heap.size 6 rfl 24 _ q2 _ Try.underlying24 rfl size_op rfl ?_)
      | (refine wpList_alloc_blk (w := w2) rfl 24 rfl _ zero_op ?_; intro w3 q3 g3 z3)
      | (refine wpList_store_blk (w := w3) rfl 24 _ _ rfl w2.heap.size 6 rfl 24 _ #[.int .i64 2, .int .i64 1, .int .i64 2, .int .i64 3, .int .i64 4, .int .i64 0] rfl q3 size_op rfl rfl (by kernel_rfl) ?_; intro w4 q4 g4 z4)
      | (refine wpList_run (w := w4) rfl (v := .pointer (some ⟨w2.heap.size, 2, none⟩)) (Held.y_field (S := fun _ => True) (k := 2) (s := 0) rfl rfl Try.underlying24 rfl (by kernel_rfl) rfl _ trivial) ?_)
      | (refine wpList_store_field (w := w4) rfl 3 _ _ rfl w2.heap.size 2 rfl 24 _ (.int .i64 (-1)) rfl q4 (by simp) (by kernel_rfl) rfl rfl ?_; intro w5 q5 g5 z5))
  have l1 := q1.lt
  have l2 := q2.lt
  have l3 := q3.lt
  have s2 := g2.size
  have s4 := g4.size
  have s5 := g5.size
  have q2 := ((q2.grown g3 (by simp)).grown g4 (by intro e; injection e with e; omega)).grown g5 (by intro e; injection e with e; omega)
  have b5 : Below w.heap.size w w5 := (((((Below.refl _ w).grown g1 (Nat.le_refl _) (by simp)).grown g2 (by omega) (fun r e => by cases e; omega)).grown g3 (by omega) (by simp)).grown g4 (by omega) (fun r e => by cases e; omega)).grown g5 (by omega) (fun r e => by cases e; omega)
  have q5 : Blk w5 w2.heap.size 24 #[.int .i64 2, .int .i64 1, .int .i64 (-1), .int .i64 3, .int .i64 4, .int .i64 0] := q5
  have hgb : w.heap.size ≤ w2.heap.size := by omega
  clear q1 q3 q4 g1 g2 g3 g4 g5 z1 z2 z3 z4 z5 l1 l2 l3 s2 s4 s5
  go_loopw [11, 12] (fun l i wr => ∃ (k L c : Nat) (A : Option Addr), k ≤ 5 ∧ l = .slice A L c ∧ i = .int .i64 k ∧ Hid ((List.replicate k good).length = L) ∧ OwnL kO 24 wr w5.heap.size (.slice A L c) (List.replicate k good) ∧ Below w5.heap.size w5 wr) (fun _ i _ => 5 - (intOf i).toNat)
  case atStart => exact ⟨0, 0, 0, none, by omega, rfl, rfl, Lib.hid rfl, OwnL.nil _ _ _ _, Below.refl _ _⟩
  case round =>
    obtain ⟨k, L, c, A, hk, rfl, rfl, HL, o, b⟩ := hrel
    have qg := q2.after b
    have qb := q5.after b
    by_cases hlt : k < 5
    · have hlt' : (k : Int) < 5 := by omega
      have hk0 : (0 : Int) ≤ (k : Int) := by omega
      have hS := HS.out k
      have HSk := Lib.hid hS
      clear hS
      go_wp2_with (first
        | (refine wpList_load_blk (w := wr) rfl 24 _ rfl w.heap.size 6 rfl 24 _ qg _ Try.underlying24 rfl size_op rfl ?_)
        | (refine wpList_build_lst (w := wr) (k := kO) rfl 25 24 1 _ rfl Try.underlying25 _ 48 info_op rfl [good] rfl (by kernel_rfl) (by omega) (by decide) ?_; intro v1 p1 h1 y1; have o1 := o.kept h1 (by cases (Value.slice A L c).ownBlock <;> simp); have b1 := b.grown h1 b.size (by simp); have i1 : Lst kO v1 v1.heap.size (some ⟨wr.heap.size, 0, none⟩) 1 [good] := lst_whole p1 rfl (fun x hx => by rw [List.mem_singleton.1 hx]; exact ⟨rfl, rfl, rfl, rfl, rfl, rfl⟩))
        | (at_builtin; refine wpList_append_lst (w := v1) (k := kO) rfl _ _ 25 24 rfl Try.underlying25 _ 48 info_op rfl w5.heap.size v1.heap.size wr.heap.size 0 1 1 (.slice A L c) (List.replicate k good) [good] rfl rfl o1 i1 (by simp; omega) (by omega) b1.size ?_; intro vv v2 o2 h2 t2; rw [← HSk.out] at o2; obtain ⟨A2, L2, c2, rfl, HL2, hc2⟩ := o2.form2; have b2 := b1.grown h2 b1.size (fun r e => (o1.lt r e).1); clear h1 h2 y1 p1 o1 b1 i1 t2))
      go_roundw
      case rel => exact ⟨k + 1, L2, c2, A2, by omega, rfl, by go_num, HL2, o2, b2⟩
      case measure => simp [intOf]; omega
    · have hk5 : k = 5 := by omega
      subst hk5
      obtain ⟨g, rfl, hg⟩ := own_at o (by simp)
      have hL5 : L = 5 := by rw [← HL.out]; simp
      subst hL5
      have hgl : g < wr.heap.size := (o.lt g rfl).2
      clear HL hlt
      have haddr := fun W => run_addr_of (P := Try.prog) 25 24 g 0 5 c NA 6 .i64 Try.underlying25 size_op hNA2 W
      have b := b5.trans (b.mono b5.size)
      rcases (show NP = 0 ∨ NP = 1 ∨ NP = 2 by omega) with rfl | rfl | rfl
      · go_wp2_with (first
          | (refine wpList_load_blk (w := wr) rfl 24 _ rfl w2.heap.size 6 rfl 24 _ qb _ Try.underlying24 rfl size_op rfl ?_)
          | (refine wpList_run (w := wr) rfl (v := .pointer (some ⟨g, NA * 6, none⟩)) (Held.y_addr (S := fun _ => True) rfl rfl rfl (fun W => by have := haddr W; rwa [Nat.zero_add] at this) _ trivial) ?_)
          | (refine wpList_store_lst (k := kO) (w := wr) rfl 24 _ _ rfl size_op w5.heap.size g 5 c NA (List.replicate 5 good) (⟨2, 1, -1, 3, 4, 0⟩ : O) rfl rfl o (by simp; exact hNA2) ?_; intro v1 o1 h1)
          | (refine wpList_build_blk rfl 27 _ rfl #[.int .i64 2, .slice none 0 0, .slice none 0 0, .slice none 0 0] (by kernel_rfl) ?_)
          | (refine wpList_alloc_blk (w := v1) rfl 27 rfl _ zero_prog ?_; intro v2 p2 h2 y2)
          | (refine wpList_store_blk (w := v2) rfl 27 _ _ rfl v1.heap.size 4 rfl 27 _ #[.int .i64 2, .slice none 0 0, .slice none 0 0, .slice none 0 0] rfl p2 info_prog rfl rfl (by kernel_rfl) ?_; intro v3 p3 h3 y3)
          | (refine wpList_run (w := v3) rfl (v := .pointer (some ⟨v1.heap.size, 1, none⟩)) (Held.y_field (S := fun _ => True) (k := 1) (s := 0) rfl rfl Try.underlying27 rfl (by kernel_rfl) rfl _ trivial) ?_)
          | (refine wpList_store_field (w := v3) rfl 25 _ _ rfl v1.heap.size 1 rfl 27 _ (.slice (some ⟨g, 0, none⟩) 5 c) rfl p3 (by simp) (by kernel_rfl) rfl rfl ?_; intro v4 p4 h4 y4))
        have hlv := p2.lt
        have l3v := p2.lt
        have s1v := h1.size
        have p4 : Blk v4 v1.heap.size 27 #[.int .i64 2, .slice (some ⟨g, 0, none⟩) 5 c, .slice none 0 0, .slice none 0 0] := p4
        have HB := Lib.hid (show checkB 2 (line NA (⟨2, 1, -1, 3, 4, 0⟩ : O)) [] [] = false from bad0 HM2.out)
        have HC := Lib.hid (show checkE 2 (line NA (⟨2, 1, -1, 3, 4, 0⟩ : O)) [] [] = 8 by rw [checkE, HB.out]; rfl)
        have HM := Lib.hid (show mapR 2 (line NA (⟨2, 1, -1, 3, 4, 0⟩ : O)) [] [] n 0 0 = [] by rw [mapR, HB.out]; rfl)
        have HF := Lib.hid (show foldV 2 (line NA (⟨2, 1, -1, 3, 4, 0⟩ : O)) [] [] n n = 0 by rw [foldV, HB.out]; rfl)
        have HV := Lib.hid (show finishV 2 (line NA (⟨2, 1, -1, 3, 4, 0⟩ : O)) [] [] n n = 0 by rw [finishV, HB.out]; rfl)
        have b4 : Below w.heap.size w v4 := ((b.grown h1 b.size (fun r e => by cases e; exact Nat.le_trans b5.size hg)).grown h2 (Nat.le_trans b.size s1v) (by simp)).grown h3 (Nat.le_trans b.size (by omega)) (fun r e => by cases e; exact Nat.le_trans b.size s1v) |>.grown h4 (Nat.le_trans b.size (by have := h3.size; omega)) (fun r e => by cases e; exact Nat.le_trans b.size s1v)
        have o4 := ((o1.kept h2 (.inr (by simp [Value.ownBlock]))).kept h3 (.inr (by simp [Value.ownBlock]; omega))).kept h4 (.inr (by simp [Value.ownBlock]; omega))
        have L4 : Lst kO v4 v4.heap.size (some ⟨g, 0, none⟩) 5 (line NA (⟨2, 1, -1, 3, 4, 0⟩ : O)) := OwnL.lst (c := c) o4 HLW.out
        clear o1 o4 h1 h2 h3 h4 y2 y3 y4 p2 p3 b o qg qb q2 q5 HS HGW HLW HM2 HM0 HB haddr
        refine (awake11_any v4).mono ?_
        rintro e v5 ⟨rfl, b5'⟩
        have p5 := p4.after b5'
        have L5 := (L4.below b5').more b5'.size
        have b5' := b4.trans (b5'.mono b4.size)
        clear p4 L4 b4
        go_wp2_with (refine wpList_load_blk (w := v5) rfl 27 _ rfl v1.heap.size 4 rfl 27 _ p5 _ Try.underlying27 rfl info_prog rfl ?_)
        refine (check_any v5.heap.size 2 _ _ _ _ _ _ _ _ _ (line NA (⟨2, 1, -1, 3, 4, 0⟩ : O)) [] [] v5 L5 (Lst.nil _ _ _ _) (Lst.nil _ _ _ _) (Nat.le_refl _)).mono ?_
        rintro e v6 ⟨rfl, b6⟩
        rw [HC.out]
        have p6 := p5.after b6
        have L6 := (L5.below b6).more b6.size
        have b6 := b5'.trans (b6.mono b5'.size)
        clear p5 L5 b5'
        go_wp2_with (first
          | (refine wpList_load_blk (w := v6) rfl 27 _ rfl v1.heap.size 4 rfl 27 _ p6 _ Try.underlying27 rfl info_prog rfl ?_)
          | (refine wpList_run (w := v6) rfl (v := .agg #[.int .i64 0, .int .i64 0]) (y_build (S := fun _ => True) rfl (by kernel_rfl) _ trivial) ?_))
        refine (map_any v6.heap.size 2 _ _ _ _ _ _ _ _ _ (line NA (⟨2, 1, -1, 3, 4, 0⟩ : O)) [] [] n 0 0 v6 hn rfl rfl L6 (Lst.nil _ _ _ _) (Lst.nil _ _ _ _) (Nat.le_refl _)).mono ?_
        rintro e v7 ⟨A', n', c', rfl, o7, b7⟩
        obtain ⟨A9, c9, e9, _⟩ := o7.form
        rw [HM.out] at e9
        injection e9 with e1 e2 e3
        subst e2
        have p7 := p6.after b7
        have L7 := (L6.below b7).more b7.size
        have b7 := b6.trans (b7.mono b6.size)
        clear b6 p6 L6 o7
        go_wp2_with (refine wpList_load_blk (w := v7) rfl 27 _ rfl v1.heap.size 4 rfl 27 _ p7 _ Try.underlying27 rfl info_prog rfl ?_)
        refine (fold_any v7.heap.size 2 _ _ _ _ _ _ _ _ _ (line NA (⟨2, 1, -1, 3, 4, 0⟩ : O)) [] [] n n v7 hn hn L7 (Lst.nil _ _ _ _) (Lst.nil _ _ _ _) (Nat.le_refl _)).mono ?_
        rintro e v8 ⟨rfl, b8⟩
        rw [HF.out]
        have p8 := p7.after b8
        have L8 := (L7.below b8).more b8.size
        have b8 := b7.trans (b8.mono b7.size)
        clear b7 p7 L7
        go_wp2_with (refine wpList_load_blk (w := v8) rfl 27 _ rfl v1.heap.size 4 rfl 27 _ p8 _ Try.underlying27 rfl info_prog rfl ?_)
        refine (finish_any v8.heap.size 2 _ _ _ _ _ _ _ _ _ (line NA (⟨2, 1, -1, 3, 4, 0⟩ : O)) [] [] n n v8 hn hn L8 (Lst.nil _ _ _ _) (Lst.nil _ _ _ _) (Nat.le_refl _)).mono ?_
        rintro e v9 ⟨rfl, b9⟩
        rw [HV.out]
        have b9 := b8.trans (b9.mono b8.size)
        clear b8 p8 L8
        go_wp2_with fail
        go_ret
        exact ⟨rfl, b9⟩
      · go_wp2_with (first
          | (refine wpList_load_blk (w := wr) rfl 24 _ rfl w2.heap.size 6 rfl 24 _ qb _ Try.underlying24 rfl size_op rfl ?_)
          | (refine wpList_run (w := wr) rfl (v := .pointer (some ⟨g, NA * 6, none⟩)) (Held.y_addr (S := fun _ => True) rfl rfl rfl (fun W => by have := haddr W; rwa [Nat.zero_add] at this) _ trivial) ?_)
          | (refine wpList_store_lst (k := kO) (w := wr) rfl 24 _ _ rfl size_op w5.heap.size g 5 c NA (List.replicate 5 good) (⟨2, 1, -1, 3, 4, 0⟩ : O) rfl rfl o (by simp; exact hNA2) ?_; intro v1 o1 h1)
          | (refine wpList_build_blk rfl 27 _ rfl #[.int .i64 2, .slice none 0 0, .slice none 0 0, .slice none 0 0] (by kernel_rfl) ?_)
          | (refine wpList_alloc_blk (w := v1) rfl 27 rfl _ zero_prog ?_; intro v2 p2 h2 y2)
          | (refine wpList_store_blk (w := v2) rfl 27 _ _ rfl v1.heap.size 4 rfl 27 _ #[.int .i64 2, .slice none 0 0, .slice none 0 0, .slice none 0 0] rfl p2 info_prog rfl rfl (by kernel_rfl) ?_; intro v3 p3 h3 y3)
          | (refine wpList_run (w := v3) rfl (v := .pointer (some ⟨v1.heap.size, 2, none⟩)) (Held.y_field (S := fun _ => True) (k := 2) (s := 0) rfl rfl Try.underlying27 rfl (by kernel_rfl) rfl _ trivial) ?_)
          | (refine wpList_store_field (w := v3) rfl 25 _ _ rfl v1.heap.size 2 rfl 27 _ (.slice (some ⟨g, 0, none⟩) 5 c) rfl p3 (by simp) (by kernel_rfl) rfl rfl ?_; intro v4 p4 h4 y4))
        have hlv := p2.lt
        have l3v := p2.lt
        have s1v := h1.size
        have p4 : Blk v4 v1.heap.size 27 #[.int .i64 2, .slice none 0 0, .slice (some ⟨g, 0, none⟩) 5 c, .slice none 0 0] := p4
        have HB := Lib.hid (show checkB 2 [] (line NA (⟨2, 1, -1, 3, 4, 0⟩ : O)) [] = false from bad1 HM0.out)
        have HC := Lib.hid (show checkE 2 [] (line NA (⟨2, 1, -1, 3, 4, 0⟩ : O)) [] = 8 by rw [checkE, HB.out]; rfl)
        have HM := Lib.hid (show mapR 2 [] (line NA (⟨2, 1, -1, 3, 4, 0⟩ : O)) [] n 0 0 = [] by rw [mapR, HB.out]; rfl)
        have HF := Lib.hid (show foldV 2 [] (line NA (⟨2, 1, -1, 3, 4, 0⟩ : O)) [] n n = 0 by rw [foldV, HB.out]; rfl)
        have HV := Lib.hid (show finishV 2 [] (line NA (⟨2, 1, -1, 3, 4, 0⟩ : O)) [] n n = 0 by rw [finishV, HB.out]; rfl)
        have b4 : Below w.heap.size w v4 := ((b.grown h1 b.size (fun r e => by cases e; exact Nat.le_trans b5.size hg)).grown h2 (Nat.le_trans b.size s1v) (by simp)).grown h3 (Nat.le_trans b.size (by omega)) (fun r e => by cases e; exact Nat.le_trans b.size s1v) |>.grown h4 (Nat.le_trans b.size (by have := h3.size; omega)) (fun r e => by cases e; exact Nat.le_trans b.size s1v)
        have o4 := ((o1.kept h2 (.inr (by simp [Value.ownBlock]))).kept h3 (.inr (by simp [Value.ownBlock]; omega))).kept h4 (.inr (by simp [Value.ownBlock]; omega))
        have L4 : Lst kO v4 v4.heap.size (some ⟨g, 0, none⟩) 5 (line NA (⟨2, 1, -1, 3, 4, 0⟩ : O)) := OwnL.lst (c := c) o4 HLW.out
        clear o1 o4 h1 h2 h3 h4 y2 y3 y4 p2 p3 b o qg qb q2 q5 HS HGW HLW HM2 HM0 HB haddr
        refine (awake11_any v4).mono ?_
        rintro e v5 ⟨rfl, b5'⟩
        have p5 := p4.after b5'
        have L5 := (L4.below b5').more b5'.size
        have b5' := b4.trans (b5'.mono b4.size)
        clear p4 L4 b4
        go_wp2_with (refine wpList_load_blk (w := v5) rfl 27 _ rfl v1.heap.size 4 rfl 27 _ p5 _ Try.underlying27 rfl info_prog rfl ?_)
        refine (check_any v5.heap.size 2 _ _ _ _ _ _ _ _ _ [] (line NA (⟨2, 1, -1, 3, 4, 0⟩ : O)) [] v5 (Lst.nil _ _ _ _) L5 (Lst.nil _ _ _ _) (Nat.le_refl _)).mono ?_
        rintro e v6 ⟨rfl, b6⟩
        rw [HC.out]
        have p6 := p5.after b6
        have L6 := (L5.below b6).more b6.size
        have b6 := b5'.trans (b6.mono b5'.size)
        clear p5 L5 b5'
        go_wp2_with (first
          | (refine wpList_load_blk (w := v6) rfl 27 _ rfl v1.heap.size 4 rfl 27 _ p6 _ Try.underlying27 rfl info_prog rfl ?_)
          | (refine wpList_run (w := v6) rfl (v := .agg #[.int .i64 0, .int .i64 0]) (y_build (S := fun _ => True) rfl (by kernel_rfl) _ trivial) ?_))
        refine (map_any v6.heap.size 2 _ _ _ _ _ _ _ _ _ [] (line NA (⟨2, 1, -1, 3, 4, 0⟩ : O)) [] n 0 0 v6 hn rfl rfl (Lst.nil _ _ _ _) L6 (Lst.nil _ _ _ _) (Nat.le_refl _)).mono ?_
        rintro e v7 ⟨A', n', c', rfl, o7, b7⟩
        obtain ⟨A9, c9, e9, _⟩ := o7.form
        rw [HM.out] at e9
        injection e9 with e1 e2 e3
        subst e2
        have p7 := p6.after b7
        have L7 := (L6.below b7).more b7.size
        have b7 := b6.trans (b7.mono b6.size)
        clear b6 p6 L6 o7
        go_wp2_with (refine wpList_load_blk (w := v7) rfl 27 _ rfl v1.heap.size 4 rfl 27 _ p7 _ Try.underlying27 rfl info_prog rfl ?_)
        refine (fold_any v7.heap.size 2 _ _ _ _ _ _ _ _ _ [] (line NA (⟨2, 1, -1, 3, 4, 0⟩ : O)) [] n n v7 hn hn (Lst.nil _ _ _ _) L7 (Lst.nil _ _ _ _) (Nat.le_refl _)).mono ?_
        rintro e v8 ⟨rfl, b8⟩
        rw [HF.out]
        have p8 := p7.after b8
        have L8 := (L7.below b8).more b8.size
        have b8 := b7.trans (b8.mono b7.size)
        clear b7 p7 L7
        go_wp2_with (refine wpList_load_blk (w := v8) rfl 27 _ rfl v1.heap.size 4 rfl 27 _ p8 _ Try.underlying27 rfl info_prog rfl ?_)
        refine (finish_any v8.heap.size 2 _ _ _ _ _ _ _ _ _ [] (line NA (⟨2, 1, -1, 3, 4, 0⟩ : O)) [] n n v8 hn hn (Lst.nil _ _ _ _) L8 (Lst.nil _ _ _ _) (Nat.le_refl _)).mono ?_
        rintro e v9 ⟨rfl, b9⟩
        rw [HV.out]
        have b9 := b8.trans (b9.mono b8.size)
        clear b8 p8 L8
        go_wp2_with fail
        go_ret
        exact ⟨rfl, b9⟩
      · go_wp2_with (first
          | (refine wpList_load_blk (w := wr) rfl 24 _ rfl w2.heap.size 6 rfl 24 _ qb _ Try.underlying24 rfl size_op rfl ?_)
          | (refine wpList_run (w := wr) rfl (v := .pointer (some ⟨g, NA * 6, none⟩)) (Held.y_addr (S := fun _ => True) rfl rfl rfl (fun W => by have := haddr W; rwa [Nat.zero_add] at this) _ trivial) ?_)
          | (refine wpList_store_lst (k := kO) (w := wr) rfl 24 _ _ rfl size_op w5.heap.size g 5 c NA (List.replicate 5 good) (⟨2, 1, -1, 3, 4, 0⟩ : O) rfl rfl o (by simp; exact hNA2) ?_; intro v1 o1 h1)
          | (refine wpList_build_blk rfl 27 _ rfl #[.int .i64 2, .slice none 0 0, .slice none 0 0, .slice none 0 0] (by kernel_rfl) ?_)
          | (refine wpList_alloc_blk (w := v1) rfl 27 rfl _ zero_prog ?_; intro v2 p2 h2 y2)
          | (refine wpList_store_blk (w := v2) rfl 27 _ _ rfl v1.heap.size 4 rfl 27 _ #[.int .i64 2, .slice none 0 0, .slice none 0 0, .slice none 0 0] rfl p2 info_prog rfl rfl (by kernel_rfl) ?_; intro v3 p3 h3 y3)
          | (refine wpList_run (w := v3) rfl (v := .pointer (some ⟨v1.heap.size, 3, none⟩)) (Held.y_field (S := fun _ => True) (k := 3) (s := 0) rfl rfl Try.underlying27 rfl (by kernel_rfl) rfl _ trivial) ?_)
          | (refine wpList_store_field (w := v3) rfl 25 _ _ rfl v1.heap.size 3 rfl 27 _ (.slice (some ⟨g, 0, none⟩) 5 c) rfl p3 (by simp) (by kernel_rfl) rfl rfl ?_; intro v4 p4 h4 y4))
        have hlv := p2.lt
        have l3v := p2.lt
        have s1v := h1.size
        have p4 : Blk v4 v1.heap.size 27 #[.int .i64 2, .slice none 0 0, .slice none 0 0, .slice (some ⟨g, 0, none⟩) 5 c] := p4
        have HB := Lib.hid (show checkB 2 [] [] (line NA (⟨2, 1, -1, 3, 4, 0⟩ : O)) = false from bad2 HM0.out)
        have HC := Lib.hid (show checkE 2 [] [] (line NA (⟨2, 1, -1, 3, 4, 0⟩ : O)) = 8 by rw [checkE, HB.out]; rfl)
        have HM := Lib.hid (show mapR 2 [] [] (line NA (⟨2, 1, -1, 3, 4, 0⟩ : O)) n 0 0 = [] by rw [mapR, HB.out]; rfl)
        have HF := Lib.hid (show foldV 2 [] [] (line NA (⟨2, 1, -1, 3, 4, 0⟩ : O)) n n = 0 by rw [foldV, HB.out]; rfl)
        have HV := Lib.hid (show finishV 2 [] [] (line NA (⟨2, 1, -1, 3, 4, 0⟩ : O)) n n = 0 by rw [finishV, HB.out]; rfl)
        have b4 : Below w.heap.size w v4 := ((b.grown h1 b.size (fun r e => by cases e; exact Nat.le_trans b5.size hg)).grown h2 (Nat.le_trans b.size s1v) (by simp)).grown h3 (Nat.le_trans b.size (by omega)) (fun r e => by cases e; exact Nat.le_trans b.size s1v) |>.grown h4 (Nat.le_trans b.size (by have := h3.size; omega)) (fun r e => by cases e; exact Nat.le_trans b.size s1v)
        have o4 := ((o1.kept h2 (.inr (by simp [Value.ownBlock]))).kept h3 (.inr (by simp [Value.ownBlock]; omega))).kept h4 (.inr (by simp [Value.ownBlock]; omega))
        have L4 : Lst kO v4 v4.heap.size (some ⟨g, 0, none⟩) 5 (line NA (⟨2, 1, -1, 3, 4, 0⟩ : O)) := OwnL.lst (c := c) o4 HLW.out
        clear o1 o4 h1 h2 h3 h4 y2 y3 y4 p2 p3 b o qg qb q2 q5 HS HGW HLW HM2 HM0 HB haddr
        refine (awake11_any v4).mono ?_
        rintro e v5 ⟨rfl, b5'⟩
        have p5 := p4.after b5'
        have L5 := (L4.below b5').more b5'.size
        have b5' := b4.trans (b5'.mono b4.size)
        clear p4 L4 b4
        go_wp2_with (refine wpList_load_blk (w := v5) rfl 27 _ rfl v1.heap.size 4 rfl 27 _ p5 _ Try.underlying27 rfl info_prog rfl ?_)
        refine (check_any v5.heap.size 2 _ _ _ _ _ _ _ _ _ [] [] (line NA (⟨2, 1, -1, 3, 4, 0⟩ : O)) v5 (Lst.nil _ _ _ _) (Lst.nil _ _ _ _) L5 (Nat.le_refl _)).mono ?_
        rintro e v6 ⟨rfl, b6⟩
        rw [HC.out]
        have p6 := p5.after b6
        have L6 := (L5.below b6).more b6.size
        have b6 := b5'.trans (b6.mono b5'.size)
        clear p5 L5 b5'
        go_wp2_with (first
          | (refine wpList_load_blk (w := v6) rfl 27 _ rfl v1.heap.size 4 rfl 27 _ p6 _ Try.underlying27 rfl info_prog rfl ?_)
          | (refine wpList_run (w := v6) rfl (v := .agg #[.int .i64 0, .int .i64 0]) (y_build (S := fun _ => True) rfl (by kernel_rfl) _ trivial) ?_))
        refine (map_any v6.heap.size 2 _ _ _ _ _ _ _ _ _ [] [] (line NA (⟨2, 1, -1, 3, 4, 0⟩ : O)) n 0 0 v6 hn rfl rfl (Lst.nil _ _ _ _) (Lst.nil _ _ _ _) L6 (Nat.le_refl _)).mono ?_
        rintro e v7 ⟨A', n', c', rfl, o7, b7⟩
        obtain ⟨A9, c9, e9, _⟩ := o7.form
        rw [HM.out] at e9
        injection e9 with e1 e2 e3
        subst e2
        have p7 := p6.after b7
        have L7 := (L6.below b7).more b7.size
        have b7 := b6.trans (b7.mono b6.size)
        clear b6 p6 L6 o7
        go_wp2_with (refine wpList_load_blk (w := v7) rfl 27 _ rfl v1.heap.size 4 rfl 27 _ p7 _ Try.underlying27 rfl info_prog rfl ?_)
        refine (fold_any v7.heap.size 2 _ _ _ _ _ _ _ _ _ [] [] (line NA (⟨2, 1, -1, 3, 4, 0⟩ : O)) n n v7 hn hn (Lst.nil _ _ _ _) (Lst.nil _ _ _ _) L7 (Nat.le_refl _)).mono ?_
        rintro e v8 ⟨rfl, b8⟩
        rw [HF.out]
        have p8 := p7.after b8
        have L8 := (L7.below b8).more b8.size
        have b8 := b7.trans (b8.mono b7.size)
        clear b7 p7 L7
        go_wp2_with (refine wpList_load_blk (w := v8) rfl 27 _ rfl v1.heap.size 4 rfl 27 _ p8 _ Try.underlying27 rfl info_prog rfl ?_)
        refine (finish_any v8.heap.size 2 _ _ _ _ _ _ _ _ _ [] [] (line NA (⟨2, 1, -1, 3, 4, 0⟩ : O)) n n v8 hn hn (Lst.nil _ _ _ _) (Lst.nil _ _ _ _) L8 (Nat.le_refl _)).mono ?_
        rintro e v9 ⟨rfl, b9⟩
        rw [HV.out]
        have b9 := b8.trans (b9.mono b8.size)
        clear b8 p8 L8
        go_wp2_with fail
        go_ret
        exact ⟨rfl, b9⟩
set_option maxRecDepth 100000 in
set_option maxHeartbeats 16000000 in
theorem start3 (xp xa xw n : Int) (w : World) (hn : (Lit.int .i64 n).wf = true) (NP NA : Nat) (hNP : wrap64 ((IntKind.u64.wrap xp).tmod 3) = (NP : Int)) (hNP2 : NP < 3) (hNA : wrap64 ((IntKind.u64.wrap xa).tmod 5) = (NA : Int)) (hNA2 : NA < 5) (hW : (IntKind.u64.wrap xw).tmod 7 = 3) :
    Calls Try.prog 5 #[.int .i64 xp, .int .i64 xa, .int .i64 xw, .int .i64 n] w fun e w' => e = .returned (.bool true) ∧ Below w.heap.size w w' := by
  have HM2 := Lib.hid (show mayP (line NA (⟨2, 1, 2, 8, 4, 0⟩ : O)) 2 = false from line_may hNA2 (by decide))
  have HM0 := Lib.hid (show mayP (line NA (⟨2, 1, 2, 8, 4, 0⟩ : O)) 0 = false from line_may hNA2 (by decide))
  have HLW := Lib.hid (line_wf (i := NA) (b := (⟨2, 1, 2, 8, 4, 0⟩ : O)) ⟨rfl, rfl, rfl, rfl, rfl, rfl⟩)
  have HGW := Lib.hid (show ∀ o ∈ List.replicate 5 good, o.wf from fun o ho => by rw [List.eq_of_mem_replicate ho]; exact ⟨rfl, rfl, rfl, rfl, rfl, rfl⟩)
  have HS := Lib.hid (fun k : Nat => (show List.replicate (k + 1) good = List.replicate k good ++ [good] by rw [List.replicate_succ']))
  go_enter Try.func5, Try.ntmps5
  go_wp2_with (first
      | (refine wpList_build_blk rfl 24 #[_, _, _, _, _] rfl #[.int .i64 2, .int .i64 1, .int .i64 2, .int .i64 3, .int .i64 4, .int .i64 0] (by kernel_rfl) ?_)
      | (refine wpList_alloc_blk (w := w) rfl 24 rfl _ zero_op ?_; intro w1 q1 g1 z1)
      | (refine wpList_store_blk (w := w1) rfl 24 _ _ rfl w.heap.size 6 rfl 24 _ #[.int .i64 2, .int .i64 1, .int .i64 2, .int .i64 3, .int .i64 4, .int .i64 0] rfl q1 size_op rfl rfl (by kernel_rfl) ?_; intro w2 q2 g2 z2)
      | (refine wpList_load_blk (w := w2) rfl 24 _ rfl w.heap.size 6 rfl 24 _ q2 _ Try.underlying24 rfl size_op rfl ?_)
      | (refine wpList_alloc_blk (w := w2) rfl 24 rfl _ zero_op ?_; intro w3 q3 g3 z3)
      | (refine wpList_store_blk (w := w3) rfl 24 _ _ rfl w2.heap.size 6 rfl 24 _ #[.int .i64 2, .int .i64 1, .int .i64 2, .int .i64 3, .int .i64 4, .int .i64 0] rfl q3 size_op rfl rfl (by kernel_rfl) ?_; intro w4 q4 g4 z4)
      | (refine wpList_run (w := w4) rfl (v := .pointer (some ⟨w2.heap.size, 3, none⟩)) (Held.y_field (S := fun _ => True) (k := 3) (s := 0) rfl rfl Try.underlying24 rfl (by kernel_rfl) rfl _ trivial) ?_)
      | (refine wpList_store_field (w := w4) rfl 3 _ _ rfl w2.heap.size 3 rfl 24 _ (.int .i64 8) rfl q4 (by simp) (by kernel_rfl) rfl rfl ?_; intro w5 q5 g5 z5))
  have l1 := q1.lt
  have l2 := q2.lt
  have l3 := q3.lt
  have s2 := g2.size
  have s4 := g4.size
  have s5 := g5.size
  have q2 := ((q2.grown g3 (by simp)).grown g4 (by intro e; injection e with e; omega)).grown g5 (by intro e; injection e with e; omega)
  have b5 : Below w.heap.size w w5 := (((((Below.refl _ w).grown g1 (Nat.le_refl _) (by simp)).grown g2 (by omega) (fun r e => by cases e; omega)).grown g3 (by omega) (by simp)).grown g4 (by omega) (fun r e => by cases e; omega)).grown g5 (by omega) (fun r e => by cases e; omega)
  have q5 : Blk w5 w2.heap.size 24 #[.int .i64 2, .int .i64 1, .int .i64 2, .int .i64 8, .int .i64 4, .int .i64 0] := q5
  have hgb : w.heap.size ≤ w2.heap.size := by omega
  clear q1 q3 q4 g1 g2 g3 g4 g5 z1 z2 z3 z4 z5 l1 l2 l3 s2 s4 s5
  go_loopw [11, 12] (fun l i wr => ∃ (k L c : Nat) (A : Option Addr), k ≤ 5 ∧ l = .slice A L c ∧ i = .int .i64 k ∧ Hid ((List.replicate k good).length = L) ∧ OwnL kO 24 wr w5.heap.size (.slice A L c) (List.replicate k good) ∧ Below w5.heap.size w5 wr) (fun _ i _ => 5 - (intOf i).toNat)
  case atStart => exact ⟨0, 0, 0, none, by omega, rfl, rfl, Lib.hid rfl, OwnL.nil _ _ _ _, Below.refl _ _⟩
  case round =>
    obtain ⟨k, L, c, A, hk, rfl, rfl, HL, o, b⟩ := hrel
    have qg := q2.after b
    have qb := q5.after b
    by_cases hlt : k < 5
    · have hlt' : (k : Int) < 5 := by omega
      have hk0 : (0 : Int) ≤ (k : Int) := by omega
      have hS := HS.out k
      have HSk := Lib.hid hS
      clear hS
      go_wp2_with (first
        | (refine wpList_load_blk (w := wr) rfl 24 _ rfl w.heap.size 6 rfl 24 _ qg _ Try.underlying24 rfl size_op rfl ?_)
        | (refine wpList_build_lst (w := wr) (k := kO) rfl 25 24 1 _ rfl Try.underlying25 _ 48 info_op rfl [good] rfl (by kernel_rfl) (by omega) (by decide) ?_; intro v1 p1 h1 y1; have o1 := o.kept h1 (by cases (Value.slice A L c).ownBlock <;> simp); have b1 := b.grown h1 b.size (by simp); have i1 : Lst kO v1 v1.heap.size (some ⟨wr.heap.size, 0, none⟩) 1 [good] := lst_whole p1 rfl (fun x hx => by rw [List.mem_singleton.1 hx]; exact ⟨rfl, rfl, rfl, rfl, rfl, rfl⟩))
        | (at_builtin; refine wpList_append_lst (w := v1) (k := kO) rfl _ _ 25 24 rfl Try.underlying25 _ 48 info_op rfl w5.heap.size v1.heap.size wr.heap.size 0 1 1 (.slice A L c) (List.replicate k good) [good] rfl rfl o1 i1 (by simp; omega) (by omega) b1.size ?_; intro vv v2 o2 h2 t2; rw [← HSk.out] at o2; obtain ⟨A2, L2, c2, rfl, HL2, hc2⟩ := o2.form2; have b2 := b1.grown h2 b1.size (fun r e => (o1.lt r e).1); clear h1 h2 y1 p1 o1 b1 i1 t2))
      go_roundw
      case rel => exact ⟨k + 1, L2, c2, A2, by omega, rfl, by go_num, HL2, o2, b2⟩
      case measure => simp [intOf]; omega
    · have hk5 : k = 5 := by omega
      subst hk5
      obtain ⟨g, rfl, hg⟩ := own_at o (by simp)
      have hL5 : L = 5 := by rw [← HL.out]; simp
      subst hL5
      have hgl : g < wr.heap.size := (o.lt g rfl).2
      clear HL hlt
      have haddr := fun W => run_addr_of (P := Try.prog) 25 24 g 0 5 c NA 6 .i64 Try.underlying25 size_op hNA2 W
      have b := b5.trans (b.mono b5.size)
      rcases (show NP = 0 ∨ NP = 1 ∨ NP = 2 by omega) with rfl | rfl | rfl
      · go_wp2_with (first
          | (refine wpList_load_blk (w := wr) rfl 24 _ rfl w2.heap.size 6 rfl 24 _ qb _ Try.underlying24 rfl size_op rfl ?_)
          | (refine wpList_run (w := wr) rfl (v := .pointer (some ⟨g, NA * 6, none⟩)) (Held.y_addr (S := fun _ => True) rfl rfl rfl (fun W => by have := haddr W; rwa [Nat.zero_add] at this) _ trivial) ?_)
          | (refine wpList_store_lst (k := kO) (w := wr) rfl 24 _ _ rfl size_op w5.heap.size g 5 c NA (List.replicate 5 good) (⟨2, 1, 2, 8, 4, 0⟩ : O) rfl rfl o (by simp; exact hNA2) ?_; intro v1 o1 h1)
          | (refine wpList_build_blk rfl 27 _ rfl #[.int .i64 2, .slice none 0 0, .slice none 0 0, .slice none 0 0] (by kernel_rfl) ?_)
          | (refine wpList_alloc_blk (w := v1) rfl 27 rfl _ zero_prog ?_; intro v2 p2 h2 y2)
          | (refine wpList_store_blk (w := v2) rfl 27 _ _ rfl v1.heap.size 4 rfl 27 _ #[.int .i64 2, .slice none 0 0, .slice none 0 0, .slice none 0 0] rfl p2 info_prog rfl rfl (by kernel_rfl) ?_; intro v3 p3 h3 y3)
          | (refine wpList_run (w := v3) rfl (v := .pointer (some ⟨v1.heap.size, 1, none⟩)) (Held.y_field (S := fun _ => True) (k := 1) (s := 0) rfl rfl Try.underlying27 rfl (by kernel_rfl) rfl _ trivial) ?_)
          | (refine wpList_store_field (w := v3) rfl 25 _ _ rfl v1.heap.size 1 rfl 27 _ (.slice (some ⟨g, 0, none⟩) 5 c) rfl p3 (by simp) (by kernel_rfl) rfl rfl ?_; intro v4 p4 h4 y4))
        have hlv := p2.lt
        have l3v := p2.lt
        have s1v := h1.size
        have p4 : Blk v4 v1.heap.size 27 #[.int .i64 2, .slice (some ⟨g, 0, none⟩) 5 c, .slice none 0 0, .slice none 0 0] := p4
        have HB := Lib.hid (show checkB 2 (line NA (⟨2, 1, 2, 8, 4, 0⟩ : O)) [] [] = false from bad0 HM2.out)
        have HC := Lib.hid (show checkE 2 (line NA (⟨2, 1, 2, 8, 4, 0⟩ : O)) [] [] = 8 by rw [checkE, HB.out]; rfl)
        have HM := Lib.hid (show mapR 2 (line NA (⟨2, 1, 2, 8, 4, 0⟩ : O)) [] [] n 0 0 = [] by rw [mapR, HB.out]; rfl)
        have HF := Lib.hid (show foldV 2 (line NA (⟨2, 1, 2, 8, 4, 0⟩ : O)) [] [] n n = 0 by rw [foldV, HB.out]; rfl)
        have HV := Lib.hid (show finishV 2 (line NA (⟨2, 1, 2, 8, 4, 0⟩ : O)) [] [] n n = 0 by rw [finishV, HB.out]; rfl)
        have b4 : Below w.heap.size w v4 := ((b.grown h1 b.size (fun r e => by cases e; exact Nat.le_trans b5.size hg)).grown h2 (Nat.le_trans b.size s1v) (by simp)).grown h3 (Nat.le_trans b.size (by omega)) (fun r e => by cases e; exact Nat.le_trans b.size s1v) |>.grown h4 (Nat.le_trans b.size (by have := h3.size; omega)) (fun r e => by cases e; exact Nat.le_trans b.size s1v)
        have o4 := ((o1.kept h2 (.inr (by simp [Value.ownBlock]))).kept h3 (.inr (by simp [Value.ownBlock]; omega))).kept h4 (.inr (by simp [Value.ownBlock]; omega))
        have L4 : Lst kO v4 v4.heap.size (some ⟨g, 0, none⟩) 5 (line NA (⟨2, 1, 2, 8, 4, 0⟩ : O)) := OwnL.lst (c := c) o4 HLW.out
        clear o1 o4 h1 h2 h3 h4 y2 y3 y4 p2 p3 b o qg qb q2 q5 HS HGW HLW HM2 HM0 HB haddr
        refine (awake11_any v4).mono ?_
        rintro e v5 ⟨rfl, b5'⟩
        have p5 := p4.after b5'
        have L5 := (L4.below b5').more b5'.size
        have b5' := b4.trans (b5'.mono b4.size)
        clear p4 L4 b4
        go_wp2_with (refine wpList_load_blk (w := v5) rfl 27 _ rfl v1.heap.size 4 rfl 27 _ p5 _ Try.underlying27 rfl info_prog rfl ?_)
        refine (check_any v5.heap.size 2 _ _ _ _ _ _ _ _ _ (line NA (⟨2, 1, 2, 8, 4, 0⟩ : O)) [] [] v5 L5 (Lst.nil _ _ _ _) (Lst.nil _ _ _ _) (Nat.le_refl _)).mono ?_
        rintro e v6 ⟨rfl, b6⟩
        rw [HC.out]
        have p6 := p5.after b6
        have L6 := (L5.below b6).more b6.size
        have b6 := b5'.trans (b6.mono b5'.size)
        clear p5 L5 b5'
        go_wp2_with (first
          | (refine wpList_load_blk (w := v6) rfl 27 _ rfl v1.heap.size 4 rfl 27 _ p6 _ Try.underlying27 rfl info_prog rfl ?_)
          | (refine wpList_run (w := v6) rfl (v := .agg #[.int .i64 0, .int .i64 0]) (y_build (S := fun _ => True) rfl (by kernel_rfl) _ trivial) ?_))
        refine (map_any v6.heap.size 2 _ _ _ _ _ _ _ _ _ (line NA (⟨2, 1, 2, 8, 4, 0⟩ : O)) [] [] n 0 0 v6 hn rfl rfl L6 (Lst.nil _ _ _ _) (Lst.nil _ _ _ _) (Nat.le_refl _)).mono ?_
        rintro e v7 ⟨A', n', c', rfl, o7, b7⟩
        obtain ⟨A9, c9, e9, _⟩ := o7.form
        rw [HM.out] at e9
        injection e9 with e1 e2 e3
        subst e2
        have p7 := p6.after b7
        have L7 := (L6.below b7).more b7.size
        have b7 := b6.trans (b7.mono b6.size)
        clear b6 p6 L6 o7
        go_wp2_with (refine wpList_load_blk (w := v7) rfl 27 _ rfl v1.heap.size 4 rfl 27 _ p7 _ Try.underlying27 rfl info_prog rfl ?_)
        refine (fold_any v7.heap.size 2 _ _ _ _ _ _ _ _ _ (line NA (⟨2, 1, 2, 8, 4, 0⟩ : O)) [] [] n n v7 hn hn L7 (Lst.nil _ _ _ _) (Lst.nil _ _ _ _) (Nat.le_refl _)).mono ?_
        rintro e v8 ⟨rfl, b8⟩
        rw [HF.out]
        have p8 := p7.after b8
        have L8 := (L7.below b8).more b8.size
        have b8 := b7.trans (b8.mono b7.size)
        clear b7 p7 L7
        go_wp2_with (refine wpList_load_blk (w := v8) rfl 27 _ rfl v1.heap.size 4 rfl 27 _ p8 _ Try.underlying27 rfl info_prog rfl ?_)
        refine (finish_any v8.heap.size 2 _ _ _ _ _ _ _ _ _ (line NA (⟨2, 1, 2, 8, 4, 0⟩ : O)) [] [] n n v8 hn hn L8 (Lst.nil _ _ _ _) (Lst.nil _ _ _ _) (Nat.le_refl _)).mono ?_
        rintro e v9 ⟨rfl, b9⟩
        rw [HV.out]
        have b9 := b8.trans (b9.mono b8.size)
        clear b8 p8 L8
        go_wp2_with fail
        go_ret
        exact ⟨rfl, b9⟩
      · go_wp2_with (first
          | (refine wpList_load_blk (w := wr) rfl 24 _ rfl w2.heap.size 6 rfl 24 _ qb _ Try.underlying24 rfl size_op rfl ?_)
          | (refine wpList_run (w := wr) rfl (v := .pointer (some ⟨g, NA * 6, none⟩)) (Held.y_addr (S := fun _ => True) rfl rfl rfl (fun W => by have := haddr W; rwa [Nat.zero_add] at this) _ trivial) ?_)
          | (refine wpList_store_lst (k := kO) (w := wr) rfl 24 _ _ rfl size_op w5.heap.size g 5 c NA (List.replicate 5 good) (⟨2, 1, 2, 8, 4, 0⟩ : O) rfl rfl o (by simp; exact hNA2) ?_; intro v1 o1 h1)
          | (refine wpList_build_blk rfl 27 _ rfl #[.int .i64 2, .slice none 0 0, .slice none 0 0, .slice none 0 0] (by kernel_rfl) ?_)
          | (refine wpList_alloc_blk (w := v1) rfl 27 rfl _ zero_prog ?_; intro v2 p2 h2 y2)
          | (refine wpList_store_blk (w := v2) rfl 27 _ _ rfl v1.heap.size 4 rfl 27 _ #[.int .i64 2, .slice none 0 0, .slice none 0 0, .slice none 0 0] rfl p2 info_prog rfl rfl (by kernel_rfl) ?_; intro v3 p3 h3 y3)
          | (refine wpList_run (w := v3) rfl (v := .pointer (some ⟨v1.heap.size, 2, none⟩)) (Held.y_field (S := fun _ => True) (k := 2) (s := 0) rfl rfl Try.underlying27 rfl (by kernel_rfl) rfl _ trivial) ?_)
          | (refine wpList_store_field (w := v3) rfl 25 _ _ rfl v1.heap.size 2 rfl 27 _ (.slice (some ⟨g, 0, none⟩) 5 c) rfl p3 (by simp) (by kernel_rfl) rfl rfl ?_; intro v4 p4 h4 y4))
        have hlv := p2.lt
        have l3v := p2.lt
        have s1v := h1.size
        have p4 : Blk v4 v1.heap.size 27 #[.int .i64 2, .slice none 0 0, .slice (some ⟨g, 0, none⟩) 5 c, .slice none 0 0] := p4
        have HB := Lib.hid (show checkB 2 [] (line NA (⟨2, 1, 2, 8, 4, 0⟩ : O)) [] = false from bad1 HM0.out)
        have HC := Lib.hid (show checkE 2 [] (line NA (⟨2, 1, 2, 8, 4, 0⟩ : O)) [] = 8 by rw [checkE, HB.out]; rfl)
        have HM := Lib.hid (show mapR 2 [] (line NA (⟨2, 1, 2, 8, 4, 0⟩ : O)) [] n 0 0 = [] by rw [mapR, HB.out]; rfl)
        have HF := Lib.hid (show foldV 2 [] (line NA (⟨2, 1, 2, 8, 4, 0⟩ : O)) [] n n = 0 by rw [foldV, HB.out]; rfl)
        have HV := Lib.hid (show finishV 2 [] (line NA (⟨2, 1, 2, 8, 4, 0⟩ : O)) [] n n = 0 by rw [finishV, HB.out]; rfl)
        have b4 : Below w.heap.size w v4 := ((b.grown h1 b.size (fun r e => by cases e; exact Nat.le_trans b5.size hg)).grown h2 (Nat.le_trans b.size s1v) (by simp)).grown h3 (Nat.le_trans b.size (by omega)) (fun r e => by cases e; exact Nat.le_trans b.size s1v) |>.grown h4 (Nat.le_trans b.size (by have := h3.size; omega)) (fun r e => by cases e; exact Nat.le_trans b.size s1v)
        have o4 := ((o1.kept h2 (.inr (by simp [Value.ownBlock]))).kept h3 (.inr (by simp [Value.ownBlock]; omega))).kept h4 (.inr (by simp [Value.ownBlock]; omega))
        have L4 : Lst kO v4 v4.heap.size (some ⟨g, 0, none⟩) 5 (line NA (⟨2, 1, 2, 8, 4, 0⟩ : O)) := OwnL.lst (c := c) o4 HLW.out
        clear o1 o4 h1 h2 h3 h4 y2 y3 y4 p2 p3 b o qg qb q2 q5 HS HGW HLW HM2 HM0 HB haddr
        refine (awake11_any v4).mono ?_
        rintro e v5 ⟨rfl, b5'⟩
        have p5 := p4.after b5'
        have L5 := (L4.below b5').more b5'.size
        have b5' := b4.trans (b5'.mono b4.size)
        clear p4 L4 b4
        go_wp2_with (refine wpList_load_blk (w := v5) rfl 27 _ rfl v1.heap.size 4 rfl 27 _ p5 _ Try.underlying27 rfl info_prog rfl ?_)
        refine (check_any v5.heap.size 2 _ _ _ _ _ _ _ _ _ [] (line NA (⟨2, 1, 2, 8, 4, 0⟩ : O)) [] v5 (Lst.nil _ _ _ _) L5 (Lst.nil _ _ _ _) (Nat.le_refl _)).mono ?_
        rintro e v6 ⟨rfl, b6⟩
        rw [HC.out]
        have p6 := p5.after b6
        have L6 := (L5.below b6).more b6.size
        have b6 := b5'.trans (b6.mono b5'.size)
        clear p5 L5 b5'
        go_wp2_with (first
          | (refine wpList_load_blk (w := v6) rfl 27 _ rfl v1.heap.size 4 rfl 27 _ p6 _ Try.underlying27 rfl info_prog rfl ?_)
          | (refine wpList_run (w := v6) rfl (v := .agg #[.int .i64 0, .int .i64 0]) (y_build (S := fun _ => True) rfl (by kernel_rfl) _ trivial) ?_))
        refine (map_any v6.heap.size 2 _ _ _ _ _ _ _ _ _ [] (line NA (⟨2, 1, 2, 8, 4, 0⟩ : O)) [] n 0 0 v6 hn rfl rfl (Lst.nil _ _ _ _) L6 (Lst.nil _ _ _ _) (Nat.le_refl _)).mono ?_
        rintro e v7 ⟨A', n', c', rfl, o7, b7⟩
        obtain ⟨A9, c9, e9, _⟩ := o7.form
        rw [HM.out] at e9
        injection e9 with e1 e2 e3
        subst e2
        have p7 := p6.after b7
        have L7 := (L6.below b7).more b7.size
        have b7 := b6.trans (b7.mono b6.size)
        clear b6 p6 L6 o7
        go_wp2_with (refine wpList_load_blk (w := v7) rfl 27 _ rfl v1.heap.size 4 rfl 27 _ p7 _ Try.underlying27 rfl info_prog rfl ?_)
        refine (fold_any v7.heap.size 2 _ _ _ _ _ _ _ _ _ [] (line NA (⟨2, 1, 2, 8, 4, 0⟩ : O)) [] n n v7 hn hn (Lst.nil _ _ _ _) L7 (Lst.nil _ _ _ _) (Nat.le_refl _)).mono ?_
        rintro e v8 ⟨rfl, b8⟩
        rw [HF.out]
        have p8 := p7.after b8
        have L8 := (L7.below b8).more b8.size
        have b8 := b7.trans (b8.mono b7.size)
        clear b7 p7 L7
        go_wp2_with (refine wpList_load_blk (w := v8) rfl 27 _ rfl v1.heap.size 4 rfl 27 _ p8 _ Try.underlying27 rfl info_prog rfl ?_)
        refine (finish_any v8.heap.size 2 _ _ _ _ _ _ _ _ _ [] (line NA (⟨2, 1, 2, 8, 4, 0⟩ : O)) [] n n v8 hn hn (Lst.nil _ _ _ _) L8 (Lst.nil _ _ _ _) (Nat.le_refl _)).mono ?_
        rintro e v9 ⟨rfl, b9⟩
        rw [HV.out]
        have b9 := b8.trans (b9.mono b8.size)
        clear b8 p8 L8
        go_wp2_with fail
        go_ret
        exact ⟨rfl, b9⟩
      · go_wp2_with (first
          | (refine wpList_load_blk (w := wr) rfl 24 _ rfl w2.heap.size 6 rfl 24 _ qb _ Try.underlying24 rfl size_op rfl ?_)
          | (refine wpList_run (w := wr) rfl (v := .pointer (some ⟨g, NA * 6, none⟩)) (Held.y_addr (S := fun _ => True) rfl rfl rfl (fun W => by have := haddr W; rwa [Nat.zero_add] at this) _ trivial) ?_)
          | (refine wpList_store_lst (k := kO) (w := wr) rfl 24 _ _ rfl size_op w5.heap.size g 5 c NA (List.replicate 5 good) (⟨2, 1, 2, 8, 4, 0⟩ : O) rfl rfl o (by simp; exact hNA2) ?_; intro v1 o1 h1)
          | (refine wpList_build_blk rfl 27 _ rfl #[.int .i64 2, .slice none 0 0, .slice none 0 0, .slice none 0 0] (by kernel_rfl) ?_)
          | (refine wpList_alloc_blk (w := v1) rfl 27 rfl _ zero_prog ?_; intro v2 p2 h2 y2)
          | (refine wpList_store_blk (w := v2) rfl 27 _ _ rfl v1.heap.size 4 rfl 27 _ #[.int .i64 2, .slice none 0 0, .slice none 0 0, .slice none 0 0] rfl p2 info_prog rfl rfl (by kernel_rfl) ?_; intro v3 p3 h3 y3)
          | (refine wpList_run (w := v3) rfl (v := .pointer (some ⟨v1.heap.size, 3, none⟩)) (Held.y_field (S := fun _ => True) (k := 3) (s := 0) rfl rfl Try.underlying27 rfl (by kernel_rfl) rfl _ trivial) ?_)
          | (refine wpList_store_field (w := v3) rfl 25 _ _ rfl v1.heap.size 3 rfl 27 _ (.slice (some ⟨g, 0, none⟩) 5 c) rfl p3 (by simp) (by kernel_rfl) rfl rfl ?_; intro v4 p4 h4 y4))
        have hlv := p2.lt
        have l3v := p2.lt
        have s1v := h1.size
        have p4 : Blk v4 v1.heap.size 27 #[.int .i64 2, .slice none 0 0, .slice none 0 0, .slice (some ⟨g, 0, none⟩) 5 c] := p4
        have HB := Lib.hid (show checkB 2 [] [] (line NA (⟨2, 1, 2, 8, 4, 0⟩ : O)) = false from bad2 HM0.out)
        have HC := Lib.hid (show checkE 2 [] [] (line NA (⟨2, 1, 2, 8, 4, 0⟩ : O)) = 8 by rw [checkE, HB.out]; rfl)
        have HM := Lib.hid (show mapR 2 [] [] (line NA (⟨2, 1, 2, 8, 4, 0⟩ : O)) n 0 0 = [] by rw [mapR, HB.out]; rfl)
        have HF := Lib.hid (show foldV 2 [] [] (line NA (⟨2, 1, 2, 8, 4, 0⟩ : O)) n n = 0 by rw [foldV, HB.out]; rfl)
        have HV := Lib.hid (show finishV 2 [] [] (line NA (⟨2, 1, 2, 8, 4, 0⟩ : O)) n n = 0 by rw [finishV, HB.out]; rfl)
        have b4 : Below w.heap.size w v4 := ((b.grown h1 b.size (fun r e => by cases e; exact Nat.le_trans b5.size hg)).grown h2 (Nat.le_trans b.size s1v) (by simp)).grown h3 (Nat.le_trans b.size (by omega)) (fun r e => by cases e; exact Nat.le_trans b.size s1v) |>.grown h4 (Nat.le_trans b.size (by have := h3.size; omega)) (fun r e => by cases e; exact Nat.le_trans b.size s1v)
        have o4 := ((o1.kept h2 (.inr (by simp [Value.ownBlock]))).kept h3 (.inr (by simp [Value.ownBlock]; omega))).kept h4 (.inr (by simp [Value.ownBlock]; omega))
        have L4 : Lst kO v4 v4.heap.size (some ⟨g, 0, none⟩) 5 (line NA (⟨2, 1, 2, 8, 4, 0⟩ : O)) := OwnL.lst (c := c) o4 HLW.out
        clear o1 o4 h1 h2 h3 h4 y2 y3 y4 p2 p3 b o qg qb q2 q5 HS HGW HLW HM2 HM0 HB haddr
        refine (awake11_any v4).mono ?_
        rintro e v5 ⟨rfl, b5'⟩
        have p5 := p4.after b5'
        have L5 := (L4.below b5').more b5'.size
        have b5' := b4.trans (b5'.mono b4.size)
        clear p4 L4 b4
        go_wp2_with (refine wpList_load_blk (w := v5) rfl 27 _ rfl v1.heap.size 4 rfl 27 _ p5 _ Try.underlying27 rfl info_prog rfl ?_)
        refine (check_any v5.heap.size 2 _ _ _ _ _ _ _ _ _ [] [] (line NA (⟨2, 1, 2, 8, 4, 0⟩ : O)) v5 (Lst.nil _ _ _ _) (Lst.nil _ _ _ _) L5 (Nat.le_refl _)).mono ?_
        rintro e v6 ⟨rfl, b6⟩
        rw [HC.out]
        have p6 := p5.after b6
        have L6 := (L5.below b6).more b6.size
        have b6 := b5'.trans (b6.mono b5'.size)
        clear p5 L5 b5'
        go_wp2_with (first
          | (refine wpList_load_blk (w := v6) rfl 27 _ rfl v1.heap.size 4 rfl 27 _ p6 _ Try.underlying27 rfl info_prog rfl ?_)
          | (refine wpList_run (w := v6) rfl (v := .agg #[.int .i64 0, .int .i64 0]) (y_build (S := fun _ => True) rfl (by kernel_rfl) _ trivial) ?_))
        refine (map_any v6.heap.size 2 _ _ _ _ _ _ _ _ _ [] [] (line NA (⟨2, 1, 2, 8, 4, 0⟩ : O)) n 0 0 v6 hn rfl rfl (Lst.nil _ _ _ _) (Lst.nil _ _ _ _) L6 (Nat.le_refl _)).mono ?_
        rintro e v7 ⟨A', n', c', rfl, o7, b7⟩
        obtain ⟨A9, c9, e9, _⟩ := o7.form
        rw [HM.out] at e9
        injection e9 with e1 e2 e3
        subst e2
        have p7 := p6.after b7
        have L7 := (L6.below b7).more b7.size
        have b7 := b6.trans (b7.mono b6.size)
        clear b6 p6 L6 o7
        go_wp2_with (refine wpList_load_blk (w := v7) rfl 27 _ rfl v1.heap.size 4 rfl 27 _ p7 _ Try.underlying27 rfl info_prog rfl ?_)
        refine (fold_any v7.heap.size 2 _ _ _ _ _ _ _ _ _ [] [] (line NA (⟨2, 1, 2, 8, 4, 0⟩ : O)) n n v7 hn hn (Lst.nil _ _ _ _) (Lst.nil _ _ _ _) L7 (Nat.le_refl _)).mono ?_
        rintro e v8 ⟨rfl, b8⟩
        rw [HF.out]
        have p8 := p7.after b8
        have L8 := (L7.below b8).more b8.size
        have b8 := b7.trans (b8.mono b7.size)
        clear b7 p7 L7
        go_wp2_with (refine wpList_load_blk (w := v8) rfl 27 _ rfl v1.heap.size 4 rfl 27 _ p8 _ Try.underlying27 rfl info_prog rfl ?_)
        refine (finish_any v8.heap.size 2 _ _ _ _ _ _ _ _ _ [] [] (line NA (⟨2, 1, 2, 8, 4, 0⟩ : O)) n n v8 hn hn (Lst.nil _ _ _ _) (Lst.nil _ _ _ _) L8 (Nat.le_refl _)).mono ?_
        rintro e v9 ⟨rfl, b9⟩
        rw [HV.out]
        have b9 := b8.trans (b9.mono b8.size)
        clear b8 p8 L8
        go_wp2_with fail
        go_ret
        exact ⟨rfl, b9⟩
set_option maxRecDepth 100000 in
set_option maxHeartbeats 16000000 in
theorem start4 (xp xa xw n : Int) (w : World) (hn : (Lit.int .i64 n).wf = true) (NP NA : Nat) (hNP : wrap64 ((IntKind.u64.wrap xp).tmod 3) = (NP : Int)) (hNP2 : NP < 3) (hNA : wrap64 ((IntKind.u64.wrap xa).tmod 5) = (NA : Int)) (hNA2 : NA < 5) (hW : (IntKind.u64.wrap xw).tmod 7 = 4) :
    Calls Try.prog 5 #[.int .i64 xp, .int .i64 xa, .int .i64 xw, .int .i64 n] w fun e w' => e = .returned (.bool true) ∧ Below w.heap.size w w' := by
  have HM2 := Lib.hid (show mayP (line NA (⟨2, 1, 2, 3, -1, 0⟩ : O)) 2 = false from line_may hNA2 (by decide))
  have HM0 := Lib.hid (show mayP (line NA (⟨2, 1, 2, 3, -1, 0⟩ : O)) 0 = false from line_may hNA2 (by decide))
  have HLW := Lib.hid (line_wf (i := NA) (b := (⟨2, 1, 2, 3, -1, 0⟩ : O)) ⟨rfl, rfl, rfl, rfl, rfl, rfl⟩)
  have HGW := Lib.hid (show ∀ o ∈ List.replicate 5 good, o.wf from fun o ho => by rw [List.eq_of_mem_replicate ho]; exact ⟨rfl, rfl, rfl, rfl, rfl, rfl⟩)
  have HS := Lib.hid (fun k : Nat => (show List.replicate (k + 1) good = List.replicate k good ++ [good] by rw [List.replicate_succ']))
  go_enter Try.func5, Try.ntmps5
  go_wp2_with (first
      | (refine wpList_build_blk rfl 24 #[_, _, _, _, _] rfl #[.int .i64 2, .int .i64 1, .int .i64 2, .int .i64 3, .int .i64 4, .int .i64 0] (by kernel_rfl) ?_)
      | (refine wpList_alloc_blk (w := w) rfl 24 rfl _ zero_op ?_; intro w1 q1 g1 z1)
      | (refine wpList_store_blk (w := w1) rfl 24 _ _ rfl w.heap.size 6 rfl 24 _ #[.int .i64 2, .int .i64 1, .int .i64 2, .int .i64 3, .int .i64 4, .int .i64 0] rfl q1 size_op rfl rfl (by kernel_rfl) ?_; intro w2 q2 g2 z2)
      | (refine wpList_load_blk (w := w2) rfl 24 _ rfl w.heap.size 6 rfl 24 _ q2 _ Try.underlying24 rfl size_op rfl ?_)
      | (refine wpList_alloc_blk (w := w2) rfl 24 rfl _ zero_op ?_; intro w3 q3 g3 z3)
      | (refine wpList_store_blk (w := w3) rfl 24 _ _ rfl w2.heap.size 6 rfl 24 _ #[.int .i64 2, .int .i64 1, .int .i64 2, .int .i64 3, .int .i64 4, .int .i64 0] rfl q3 size_op rfl rfl (by kernel_rfl) ?_; intro w4 q4 g4 z4)
      | (refine wpList_run (w := w4) rfl (v := .pointer (some ⟨w2.heap.size, 4, none⟩)) (Held.y_field (S := fun _ => True) (k := 4) (s := 0) rfl rfl Try.underlying24 rfl (by kernel_rfl) rfl _ trivial) ?_)
      | (refine wpList_store_field (w := w4) rfl 3 _ _ rfl w2.heap.size 4 rfl 24 _ (.int .i64 (-1)) rfl q4 (by simp) (by kernel_rfl) rfl rfl ?_; intro w5 q5 g5 z5))
  have l1 := q1.lt
  have l2 := q2.lt
  have l3 := q3.lt
  have s2 := g2.size
  have s4 := g4.size
  have s5 := g5.size
  have q2 := ((q2.grown g3 (by simp)).grown g4 (by intro e; injection e with e; omega)).grown g5 (by intro e; injection e with e; omega)
  have b5 : Below w.heap.size w w5 := (((((Below.refl _ w).grown g1 (Nat.le_refl _) (by simp)).grown g2 (by omega) (fun r e => by cases e; omega)).grown g3 (by omega) (by simp)).grown g4 (by omega) (fun r e => by cases e; omega)).grown g5 (by omega) (fun r e => by cases e; omega)
  have q5 : Blk w5 w2.heap.size 24 #[.int .i64 2, .int .i64 1, .int .i64 2, .int .i64 3, .int .i64 (-1), .int .i64 0] := q5
  have hgb : w.heap.size ≤ w2.heap.size := by omega
  clear q1 q3 q4 g1 g2 g3 g4 g5 z1 z2 z3 z4 z5 l1 l2 l3 s2 s4 s5
  go_loopw [11, 12] (fun l i wr => ∃ (k L c : Nat) (A : Option Addr), k ≤ 5 ∧ l = .slice A L c ∧ i = .int .i64 k ∧ Hid ((List.replicate k good).length = L) ∧ OwnL kO 24 wr w5.heap.size (.slice A L c) (List.replicate k good) ∧ Below w5.heap.size w5 wr) (fun _ i _ => 5 - (intOf i).toNat)
  case atStart => exact ⟨0, 0, 0, none, by omega, rfl, rfl, Lib.hid rfl, OwnL.nil _ _ _ _, Below.refl _ _⟩
  case round =>
    obtain ⟨k, L, c, A, hk, rfl, rfl, HL, o, b⟩ := hrel
    have qg := q2.after b
    have qb := q5.after b
    by_cases hlt : k < 5
    · have hlt' : (k : Int) < 5 := by omega
      have hk0 : (0 : Int) ≤ (k : Int) := by omega
      have hS := HS.out k
      have HSk := Lib.hid hS
      clear hS
      go_wp2_with (first
        | (refine wpList_load_blk (w := wr) rfl 24 _ rfl w.heap.size 6 rfl 24 _ qg _ Try.underlying24 rfl size_op rfl ?_)
        | (refine wpList_build_lst (w := wr) (k := kO) rfl 25 24 1 _ rfl Try.underlying25 _ 48 info_op rfl [good] rfl (by kernel_rfl) (by omega) (by decide) ?_; intro v1 p1 h1 y1; have o1 := o.kept h1 (by cases (Value.slice A L c).ownBlock <;> simp); have b1 := b.grown h1 b.size (by simp); have i1 : Lst kO v1 v1.heap.size (some ⟨wr.heap.size, 0, none⟩) 1 [good] := lst_whole p1 rfl (fun x hx => by rw [List.mem_singleton.1 hx]; exact ⟨rfl, rfl, rfl, rfl, rfl, rfl⟩))
        | (at_builtin; refine wpList_append_lst (w := v1) (k := kO) rfl _ _ 25 24 rfl Try.underlying25 _ 48 info_op rfl w5.heap.size v1.heap.size wr.heap.size 0 1 1 (.slice A L c) (List.replicate k good) [good] rfl rfl o1 i1 (by simp; omega) (by omega) b1.size ?_; intro vv v2 o2 h2 t2; rw [← HSk.out] at o2; obtain ⟨A2, L2, c2, rfl, HL2, hc2⟩ := o2.form2; have b2 := b1.grown h2 b1.size (fun r e => (o1.lt r e).1); clear h1 h2 y1 p1 o1 b1 i1 t2))
      go_roundw
      case rel => exact ⟨k + 1, L2, c2, A2, by omega, rfl, by go_num, HL2, o2, b2⟩
      case measure => simp [intOf]; omega
    · have hk5 : k = 5 := by omega
      subst hk5
      obtain ⟨g, rfl, hg⟩ := own_at o (by simp)
      have hL5 : L = 5 := by rw [← HL.out]; simp
      subst hL5
      have hgl : g < wr.heap.size := (o.lt g rfl).2
      clear HL hlt
      have haddr := fun W => run_addr_of (P := Try.prog) 25 24 g 0 5 c NA 6 .i64 Try.underlying25 size_op hNA2 W
      have b := b5.trans (b.mono b5.size)
      rcases (show NP = 0 ∨ NP = 1 ∨ NP = 2 by omega) with rfl | rfl | rfl
      · go_wp2_with (first
          | (refine wpList_load_blk (w := wr) rfl 24 _ rfl w2.heap.size 6 rfl 24 _ qb _ Try.underlying24 rfl size_op rfl ?_)
          | (refine wpList_run (w := wr) rfl (v := .pointer (some ⟨g, NA * 6, none⟩)) (Held.y_addr (S := fun _ => True) rfl rfl rfl (fun W => by have := haddr W; rwa [Nat.zero_add] at this) _ trivial) ?_)
          | (refine wpList_store_lst (k := kO) (w := wr) rfl 24 _ _ rfl size_op w5.heap.size g 5 c NA (List.replicate 5 good) (⟨2, 1, 2, 3, -1, 0⟩ : O) rfl rfl o (by simp; exact hNA2) ?_; intro v1 o1 h1)
          | (refine wpList_build_blk rfl 27 _ rfl #[.int .i64 2, .slice none 0 0, .slice none 0 0, .slice none 0 0] (by kernel_rfl) ?_)
          | (refine wpList_alloc_blk (w := v1) rfl 27 rfl _ zero_prog ?_; intro v2 p2 h2 y2)
          | (refine wpList_store_blk (w := v2) rfl 27 _ _ rfl v1.heap.size 4 rfl 27 _ #[.int .i64 2, .slice none 0 0, .slice none 0 0, .slice none 0 0] rfl p2 info_prog rfl rfl (by kernel_rfl) ?_; intro v3 p3 h3 y3)
          | (refine wpList_run (w := v3) rfl (v := .pointer (some ⟨v1.heap.size, 1, none⟩)) (Held.y_field (S := fun _ => True) (k := 1) (s := 0) rfl rfl Try.underlying27 rfl (by kernel_rfl) rfl _ trivial) ?_)
          | (refine wpList_store_field (w := v3) rfl 25 _ _ rfl v1.heap.size 1 rfl 27 _ (.slice (some ⟨g, 0, none⟩) 5 c) rfl p3 (by simp) (by kernel_rfl) rfl rfl ?_; intro v4 p4 h4 y4))
        have hlv := p2.lt
        have l3v := p2.lt
        have s1v := h1.size
        have p4 : Blk v4 v1.heap.size 27 #[.int .i64 2, .slice (some ⟨g, 0, none⟩) 5 c, .slice none 0 0, .slice none 0 0] := p4
        have HB := Lib.hid (show checkB 2 (line NA (⟨2, 1, 2, 3, -1, 0⟩ : O)) [] [] = false from bad0 HM2.out)
        have HC := Lib.hid (show checkE 2 (line NA (⟨2, 1, 2, 3, -1, 0⟩ : O)) [] [] = 8 by rw [checkE, HB.out]; rfl)
        have HM := Lib.hid (show mapR 2 (line NA (⟨2, 1, 2, 3, -1, 0⟩ : O)) [] [] n 0 0 = [] by rw [mapR, HB.out]; rfl)
        have HF := Lib.hid (show foldV 2 (line NA (⟨2, 1, 2, 3, -1, 0⟩ : O)) [] [] n n = 0 by rw [foldV, HB.out]; rfl)
        have HV := Lib.hid (show finishV 2 (line NA (⟨2, 1, 2, 3, -1, 0⟩ : O)) [] [] n n = 0 by rw [finishV, HB.out]; rfl)
        have b4 : Below w.heap.size w v4 := ((b.grown h1 b.size (fun r e => by cases e; exact Nat.le_trans b5.size hg)).grown h2 (Nat.le_trans b.size s1v) (by simp)).grown h3 (Nat.le_trans b.size (by omega)) (fun r e => by cases e; exact Nat.le_trans b.size s1v) |>.grown h4 (Nat.le_trans b.size (by have := h3.size; omega)) (fun r e => by cases e; exact Nat.le_trans b.size s1v)
        have o4 := ((o1.kept h2 (.inr (by simp [Value.ownBlock]))).kept h3 (.inr (by simp [Value.ownBlock]; omega))).kept h4 (.inr (by simp [Value.ownBlock]; omega))
        have L4 : Lst kO v4 v4.heap.size (some ⟨g, 0, none⟩) 5 (line NA (⟨2, 1, 2, 3, -1, 0⟩ : O)) := OwnL.lst (c := c) o4 HLW.out
        clear o1 o4 h1 h2 h3 h4 y2 y3 y4 p2 p3 b o qg qb q2 q5 HS HGW HLW HM2 HM0 HB haddr
        refine (awake11_any v4).mono ?_
        rintro e v5 ⟨rfl, b5'⟩
        have p5 := p4.after b5'
        have L5 := (L4.below b5').more b5'.size
        have b5' := b4.trans (b5'.mono b4.size)
        clear p4 L4 b4
        go_wp2_with (refine wpList_load_blk (w := v5) rfl 27 _ rfl v1.heap.size 4 rfl 27 _ p5 _ Try.underlying27 rfl info_prog rfl ?_)
        refine (check_any v5.heap.size 2 _ _ _ _ _ _ _ _ _ (line NA (⟨2, 1, 2, 3, -1, 0⟩ : O)) [] [] v5 L5 (Lst.nil _ _ _ _) (Lst.nil _ _ _ _) (Nat.le_refl _)).mono ?_
        rintro e v6 ⟨rfl, b6⟩
        rw [HC.out]
        have p6 := p5.after b6
        have L6 := (L5.below b6).more b6.size
        have b6 := b5'.trans (b6.mono b5'.size)
        clear p5 L5 b5'
        go_wp2_with (first
          | (refine wpList_load_blk (w := v6) rfl 27 _ rfl v1.heap.size 4 rfl 27 _ p6 _ Try.underlying27 rfl info_prog rfl ?_)
          | (refine wpList_run (w := v6) rfl (v := .agg #[.int .i64 0, .int .i64 0]) (y_build (S := fun _ => True) rfl (by kernel_rfl) _ trivial) ?_))
        refine (map_any v6.heap.size 2 _ _ _ _ _ _ _ _ _ (line NA (⟨2, 1, 2, 3, -1, 0⟩ : O)) [] [] n 0 0 v6 hn rfl rfl L6 (Lst.nil _ _ _ _) (Lst.nil _ _ _ _) (Nat.le_refl _)).mono ?_
        rintro e v7 ⟨A', n', c', rfl, o7, b7⟩
        obtain ⟨A9, c9, e9, _⟩ := o7.form
        rw [HM.out] at e9
        injection e9 with e1 e2 e3
        subst e2
        have p7 := p6.after b7
        have L7 := (L6.below b7).more b7.size
        have b7 := b6.trans (b7.mono b6.size)
        clear b6 p6 L6 o7
        go_wp2_with (refine wpList_load_blk (w := v7) rfl 27 _ rfl v1.heap.size 4 rfl 27 _ p7 _ Try.underlying27 rfl info_prog rfl ?_)
        refine (fold_any v7.heap.size 2 _ _ _ _ _ _ _ _ _ (line NA (⟨2, 1, 2, 3, -1, 0⟩ : O)) [] [] n n v7 hn hn L7 (Lst.nil _ _ _ _) (Lst.nil _ _ _ _) (Nat.le_refl _)).mono ?_
        rintro e v8 ⟨rfl, b8⟩
        rw [HF.out]
        have p8 := p7.after b8
        have L8 := (L7.below b8).more b8.size
        have b8 := b7.trans (b8.mono b7.size)
        clear b7 p7 L7
        go_wp2_with (refine wpList_load_blk (w := v8) rfl 27 _ rfl v1.heap.size 4 rfl 27 _ p8 _ Try.underlying27 rfl info_prog rfl ?_)
        refine (finish_any v8.heap.size 2 _ _ _ _ _ _ _ _ _ (line NA (⟨2, 1, 2, 3, -1, 0⟩ : O)) [] [] n n v8 hn hn L8 (Lst.nil _ _ _ _) (Lst.nil _ _ _ _) (Nat.le_refl _)).mono ?_
        rintro e v9 ⟨rfl, b9⟩
        rw [HV.out]
        have b9 := b8.trans (b9.mono b8.size)
        clear b8 p8 L8
        go_wp2_with fail
        go_ret
        exact ⟨rfl, b9⟩
      · go_wp2_with (first
          | (refine wpList_load_blk (w := wr) rfl 24 _ rfl w2.heap.size 6 rfl 24 _ qb _ Try.underlying24 rfl size_op rfl ?_)
          | (refine wpList_run (w := wr) rfl (v := .pointer (some ⟨g, NA * 6, none⟩)) (Held.y_addr (S := fun _ => True) rfl rfl rfl (fun W => by have := haddr W; rwa [Nat.zero_add] at this) _ trivial) ?_)
          | (refine wpList_store_lst (k := kO) (w := wr) rfl 24 _ _ rfl size_op w5.heap.size g 5 c NA (List.replicate 5 good) (⟨2, 1, 2, 3, -1, 0⟩ : O) rfl rfl o (by simp; exact hNA2) ?_; intro v1 o1 h1)
          | (refine wpList_build_blk rfl 27 _ rfl #[.int .i64 2, .slice none 0 0, .slice none 0 0, .slice none 0 0] (by kernel_rfl) ?_)
          | (refine wpList_alloc_blk (w := v1) rfl 27 rfl _ zero_prog ?_; intro v2 p2 h2 y2)
          | (refine wpList_store_blk (w := v2) rfl 27 _ _ rfl v1.heap.size 4 rfl 27 _ #[.int .i64 2, .slice none 0 0, .slice none 0 0, .slice none 0 0] rfl p2 info_prog rfl rfl (by kernel_rfl) ?_; intro v3 p3 h3 y3)
          | (refine wpList_run (w := v3) rfl (v := .pointer (some ⟨v1.heap.size, 2, none⟩)) (Held.y_field (S := fun _ => True) (k := 2) (s := 0) rfl rfl Try.underlying27 rfl (by kernel_rfl) rfl _ trivial) ?_)
          | (refine wpList_store_field (w := v3) rfl 25 _ _ rfl v1.heap.size 2 rfl 27 _ (.slice (some ⟨g, 0, none⟩) 5 c) rfl p3 (by simp) (by kernel_rfl) rfl rfl ?_; intro v4 p4 h4 y4))
        have hlv := p2.lt
        have l3v := p2.lt
        have s1v := h1.size
        have p4 : Blk v4 v1.heap.size 27 #[.int .i64 2, .slice none 0 0, .slice (some ⟨g, 0, none⟩) 5 c, .slice none 0 0] := p4
        have HB := Lib.hid (show checkB 2 [] (line NA (⟨2, 1, 2, 3, -1, 0⟩ : O)) [] = false from bad1 HM0.out)
        have HC := Lib.hid (show checkE 2 [] (line NA (⟨2, 1, 2, 3, -1, 0⟩ : O)) [] = 8 by rw [checkE, HB.out]; rfl)
        have HM := Lib.hid (show mapR 2 [] (line NA (⟨2, 1, 2, 3, -1, 0⟩ : O)) [] n 0 0 = [] by rw [mapR, HB.out]; rfl)
        have HF := Lib.hid (show foldV 2 [] (line NA (⟨2, 1, 2, 3, -1, 0⟩ : O)) [] n n = 0 by rw [foldV, HB.out]; rfl)
        have HV := Lib.hid (show finishV 2 [] (line NA (⟨2, 1, 2, 3, -1, 0⟩ : O)) [] n n = 0 by rw [finishV, HB.out]; rfl)
        have b4 : Below w.heap.size w v4 := ((b.grown h1 b.size (fun r e => by cases e; exact Nat.le_trans b5.size hg)).grown h2 (Nat.le_trans b.size s1v) (by simp)).grown h3 (Nat.le_trans b.size (by omega)) (fun r e => by cases e; exact Nat.le_trans b.size s1v) |>.grown h4 (Nat.le_trans b.size (by have := h3.size; omega)) (fun r e => by cases e; exact Nat.le_trans b.size s1v)
        have o4 := ((o1.kept h2 (.inr (by simp [Value.ownBlock]))).kept h3 (.inr (by simp [Value.ownBlock]; omega))).kept h4 (.inr (by simp [Value.ownBlock]; omega))
        have L4 : Lst kO v4 v4.heap.size (some ⟨g, 0, none⟩) 5 (line NA (⟨2, 1, 2, 3, -1, 0⟩ : O)) := OwnL.lst (c := c) o4 HLW.out
        clear o1 o4 h1 h2 h3 h4 y2 y3 y4 p2 p3 b o qg qb q2 q5 HS HGW HLW HM2 HM0 HB haddr
        refine (awake11_any v4).mono ?_
        rintro e v5 ⟨rfl, b5'⟩
        have p5 := p4.after b5'
        have L5 := (L4.below b5').more b5'.size
        have b5' := b4.trans (b5'.mono b4.size)
        clear p4 L4 b4
        go_wp2_with (refine wpList_load_blk (w := v5) rfl 27 _ rfl v1.heap.size 4 rfl 27 _ p5 _ Try.underlying27 rfl info_prog rfl ?_)
        refine (check_any v5.heap.size 2 _ _ _ _ _ _ _ _ _ [] (line NA (⟨2, 1, 2, 3, -1, 0⟩ : O)) [] v5 (Lst.nil _ _ _ _) L5 (Lst.nil _ _ _ _) (Nat.le_refl _)).mono ?_
        rintro e v6 ⟨rfl, b6⟩
        rw [HC.out]
        have p6 := p5.after b6
        have L6 := (L5.below b6).more b6.size
        have b6 := b5'.trans (b6.mono b5'.size)
        clear p5 L5 b5'
        go_wp2_with (first
          | (refine wpList_load_blk (w := v6) rfl 27 _ rfl v1.heap.size 4 rfl 27 _ p6 _ Try.underlying27 rfl info_prog rfl ?_)
          | (refine wpList_run (w := v6) rfl (v := .agg #[.int .i64 0, .int .i64 0]) (y_build (S := fun _ => True) rfl (by kernel_rfl) _ trivial) ?_))
        refine (map_any v6.heap.size 2 _ _ _ _ _ _ _ _ _ [] (line NA (⟨2, 1, 2, 3, -1, 0⟩ : O)) [] n 0 0 v6 hn rfl rfl (Lst.nil _ _ _ _) L6 (Lst.nil _ _ _ _) (Nat.le_refl _)).mono ?_
        rintro e v7 ⟨A', n', c', rfl, o7, b7⟩
        obtain ⟨A9, c9, e9, _⟩ := o7.form
        rw [HM.out] at e9
        injection e9 with e1 e2 e3
        subst e2
        have p7 := p6.after b7
        have L7 := (L6.below b7).more b7.size
        have b7 := b6.trans (b7.mono b6.size)
        clear b6 p6 L6 o7
        go_wp2_with (refine wpList_load_blk (w := v7) rfl 27 _ rfl v1.heap.size 4 rfl 27 _ p7 _ Try.underlying27 rfl info_prog rfl ?_)
        refine (fold_any v7.heap.size 2 _ _ _ _ _ _ _ _ _ [] (line NA (⟨2, 1, 2, 3, -1, 0⟩ : O)) [] n n v7 hn hn (Lst.nil _ _ _ _) L7 (Lst.nil _ _ _ _) (Nat.le_refl _)).mono ?_
        rintro e v8 ⟨rfl, b8⟩
        rw [HF.out]
        have p8 := p7.after b8
        have L8 := (L7.below b8).more b8.size
        have b8 := b7.trans (b8.mono b7.size)
        clear b7 p7 L7
        go_wp2_with (refine wpList_load_blk (w := v8) rfl 27 _ rfl v1.heap.size 4 rfl 27 _ p8 _ Try.underlying27 rfl info_prog rfl ?_)
        refine (finish_any v8.heap.size 2 _ _ _ _ _ _ _ _ _ [] (line NA (⟨2, 1, 2, 3, -1, 0⟩ : O)) [] n n v8 hn hn (Lst.nil _ _ _ _) L8 (Lst.nil _ _ _ _) (Nat.le_refl _)).mono ?_
        rintro e v9 ⟨rfl, b9⟩
        rw [HV.out]
        have b9 := b8.trans (b9.mono b8.size)
        clear b8 p8 L8
        go_wp2_with fail
        go_ret
        exact ⟨rfl, b9⟩
      · go_wp2_with (first
          | (refine wpList_load_blk (w := wr) rfl 24 _ rfl w2.heap.size 6 rfl 24 _ qb _ Try.underlying24 rfl size_op rfl ?_)
          | (refine wpList_run (w := wr) rfl (v := .pointer (some ⟨g, NA * 6, none⟩)) (Held.y_addr (S := fun _ => True) rfl rfl rfl (fun W => by have := haddr W; rwa [Nat.zero_add] at this) _ trivial) ?_)
          | (refine wpList_store_lst (k := kO) (w := wr) rfl 24 _ _ rfl size_op w5.heap.size g 5 c NA (List.replicate 5 good) (⟨2, 1, 2, 3, -1, 0⟩ : O) rfl rfl o (by simp; exact hNA2) ?_; intro v1 o1 h1)
          | (refine wpList_build_blk rfl 27 _ rfl #[.int .i64 2, .slice none 0 0, .slice none 0 0, .slice none 0 0] (by kernel_rfl) ?_)
          | (refine wpList_alloc_blk (w := v1) rfl 27 rfl _ zero_prog ?_; intro v2 p2 h2 y2)
          | (refine wpList_store_blk (w := v2) rfl 27 _ _ rfl v1.heap.size 4 rfl 27 _ #[.int .i64 2, .slice none 0 0, .slice none 0 0, .slice none 0 0] rfl p2 info_prog rfl rfl (by kernel_rfl) ?_; intro v3 p3 h3 y3)
          | (refine wpList_run (w := v3) rfl (v := .pointer (some ⟨v1.heap.size, 3, none⟩)) (Held.y_field (S := fun _ => True) (k := 3) (s := 0) rfl rfl Try.underlying27 rfl (by kernel_rfl) rfl _ trivial) ?_)
          | (refine wpList_store_field (w := v3) rfl 25 _ _ rfl v1.heap.size 3 rfl 27 _ (.slice (some ⟨g, 0, none⟩) 5 c) rfl p3 (by simp) (by kernel_rfl) rfl rfl ?_; intro v4 p4 h4 y4))
        have hlv := p2.lt
        have l3v := p2.lt
        have s1v := h1.size
        have p4 : Blk v4 v1.heap.size 27 #[.int .i64 2, .slice none 0 0, .slice none 0 0, .slice (some ⟨g, 0, none⟩) 5 c] := p4
        have HB := Lib.hid (show checkB 2 [] [] (line NA (⟨2, 1, 2, 3, -1, 0⟩ : O)) = false from bad2 HM0.out)
        have HC := Lib.hid (show checkE 2 [] [] (line NA (⟨2, 1, 2, 3, -1, 0⟩ : O)) = 8 by rw [checkE, HB.out]; rfl)
        have HM := Lib.hid (show mapR 2 [] [] (line NA (⟨2, 1, 2, 3, -1, 0⟩ : O)) n 0 0 = [] by rw [mapR, HB.out]; rfl)
        have HF := Lib.hid (show foldV 2 [] [] (line NA (⟨2, 1, 2, 3, -1, 0⟩ : O)) n n = 0 by rw [foldV, HB.out]; rfl)
        have HV := Lib.hid (show finishV 2 [] [] (line NA (⟨2, 1, 2, 3, -1, 0⟩ : O)) n n = 0 by rw [finishV, HB.out]; rfl)
        have b4 : Below w.heap.size w v4 := ((b.grown h1 b.size (fun r e => by cases e; exact Nat.le_trans b5.size hg)).grown h2 (Nat.le_trans b.size s1v) (by simp)).grown h3 (Nat.le_trans b.size (by omega)) (fun r e => by cases e; exact Nat.le_trans b.size s1v) |>.grown h4 (Nat.le_trans b.size (by have := h3.size; omega)) (fun r e => by cases e; exact Nat.le_trans b.size s1v)
        have o4 := ((o1.kept h2 (.inr (by simp [Value.ownBlock]))).kept h3 (.inr (by simp [Value.ownBlock]; omega))).kept h4 (.inr (by simp [Value.ownBlock]; omega))
        have L4 : Lst kO v4 v4.heap.size (some ⟨g, 0, none⟩) 5 (line NA (⟨2, 1, 2, 3, -1, 0⟩ : O)) := OwnL.lst (c := c) o4 HLW.out
        clear o1 o4 h1 h2 h3 h4 y2 y3 y4 p2 p3 b o qg qb q2 q5 HS HGW HLW HM2 HM0 HB haddr
        refine (awake11_any v4).mono ?_
        rintro e v5 ⟨rfl, b5'⟩
        have p5 := p4.after b5'
        have L5 := (L4.below b5').more b5'.size
        have b5' := b4.trans (b5'.mono b4.size)
        clear p4 L4 b4
        go_wp2_with (refine wpList_load_blk (w := v5) rfl 27 _ rfl v1.heap.size 4 rfl 27 _ p5 _ Try.underlying27 rfl info_prog rfl ?_)
        refine (check_any v5.heap.size 2 _ _ _ _ _ _ _ _ _ [] [] (line NA (⟨2, 1, 2, 3, -1, 0⟩ : O)) v5 (Lst.nil _ _ _ _) (Lst.nil _ _ _ _) L5 (Nat.le_refl _)).mono ?_
        rintro e v6 ⟨rfl, b6⟩
        rw [HC.out]
        have p6 := p5.after b6
        have L6 := (L5.below b6).more b6.size
        have b6 := b5'.trans (b6.mono b5'.size)
        clear p5 L5 b5'
        go_wp2_with (first
          | (refine wpList_load_blk (w := v6) rfl 27 _ rfl v1.heap.size 4 rfl 27 _ p6 _ Try.underlying27 rfl info_prog rfl ?_)
          | (refine wpList_run (w := v6) rfl (v := .agg #[.int .i64 0, .int .i64 0]) (y_build (S := fun _ => True) rfl (by kernel_rfl) _ trivial) ?_))
        refine (map_any v6.heap.size 2 _ _ _ _ _ _ _ _ _ [] [] (line NA (⟨2, 1, 2, 3, -1, 0⟩ : O)) n 0 0 v6 hn rfl rfl (Lst.nil _ _ _ _) (Lst.nil _ _ _ _) L6 (Nat.le_refl _)).mono ?_
        rintro e v7 ⟨A', n', c', rfl, o7, b7⟩
        obtain ⟨A9, c9, e9, _⟩ := o7.form
        rw [HM.out] at e9
        injection e9 with e1 e2 e3
        subst e2
        have p7 := p6.after b7
        have L7 := (L6.below b7).more b7.size
        have b7 := b6.trans (b7.mono b6.size)
        clear b6 p6 L6 o7
        go_wp2_with (refine wpList_load_blk (w := v7) rfl 27 _ rfl v1.heap.size 4 rfl 27 _ p7 _ Try.underlying27 rfl info_prog rfl ?_)
        refine (fold_any v7.heap.size 2 _ _ _ _ _ _ _ _ _ [] [] (line NA (⟨2, 1, 2, 3, -1, 0⟩ : O)) n n v7 hn hn (Lst.nil _ _ _ _) (Lst.nil _ _ _ _) L7 (Nat.le_refl _)).mono ?_
        rintro e v8 ⟨rfl, b8⟩
        rw [HF.out]
        have p8 := p7.after b8
        have L8 := (L7.below b8).more b8.size
        have b8 := b7.trans (b8.mono b7.size)
        clear b7 p7 L7
        go_wp2_with (refine wpList_load_blk (w := v8) rfl 27 _ rfl v1.heap.size 4 rfl 27 _ p8 _ Try.underlying27 rfl info_prog rfl ?_)
        refine (finish_any v8.heap.size 2 _ _ _ _ _ _ _ _ _ [] [] (line NA (⟨2, 1, 2, 3, -1, 0⟩ : O)) n n v8 hn hn (Lst.nil _ _ _ _) (Lst.nil _ _ _ _) L8 (Nat.le_refl _)).mono ?_
        rintro e v9 ⟨rfl, b9⟩
        rw [HV.out]
        have b9 := b8.trans (b9.mono b8.size)
        clear b8 p8 L8
        go_wp2_with fail
        go_ret
        exact ⟨rfl, b9⟩
set_option maxRecDepth 100000 in
set_option maxHeartbeats 16000000 in
theorem start5 (xp xa xw n : Int) (w : World) (hn : (Lit.int .i64 n).wf = true) (NP NA : Nat) (hNP : wrap64 ((IntKind.u64.wrap xp).tmod 3) = (NP : Int)) (hNP2 : NP < 3) (hNA : wrap64 ((IntKind.u64.wrap xa).tmod 5) = (NA : Int)) (hNA2 : NA < 5) (hW : (IntKind.u64.wrap xw).tmod 7 = 5) :
    Calls Try.prog 5 #[.int .i64 xp, .int .i64 xa, .int .i64 xw, .int .i64 n] w fun e w' => e = .returned (.bool true) ∧ Below w.heap.size w w' := by
  have HM2 := Lib.hid (show mayP (line NA (⟨12, 0, 0, 0, 0, 2⟩ : O)) 2 = false from line_may hNA2 (by decide))
  have HM0 := Lib.hid (show mayP (line NA (⟨12, 0, 0, 0, 0, 2⟩ : O)) 0 = false from line_may hNA2 (by decide))
  have HLW := Lib.hid (line_wf (i := NA) (b := (⟨12, 0, 0, 0, 0, 2⟩ : O)) ⟨rfl, rfl, rfl, rfl, rfl, rfl⟩)
  have HGW := Lib.hid (show ∀ o ∈ List.replicate 5 good, o.wf from fun o ho => by rw [List.eq_of_mem_replicate ho]; exact ⟨rfl, rfl, rfl, rfl, rfl, rfl⟩)
  have HS := Lib.hid (fun k : Nat => (show List.replicate (k + 1) good = List.replicate k good ++ [good] by rw [List.replicate_succ']))
  go_enter Try.func5, Try.ntmps5
  go_wp2_with (first
      | (refine wpList_build_blk rfl 24 #[_, _, _, _, _] rfl #[.int .i64 2, .int .i64 1, .int .i64 2, .int .i64 3, .int .i64 4, .int .i64 0] (by kernel_rfl) ?_)
      | (refine wpList_alloc_blk (w := w) rfl 24 rfl _ zero_op ?_; intro w1 q1 g1 z1)
      | (refine wpList_store_blk (w := w1) rfl 24 _ _ rfl w.heap.size 6 rfl 24 _ #[.int .i64 2, .int .i64 1, .int .i64 2, .int .i64 3, .int .i64 4, .int .i64 0] rfl q1 size_op rfl rfl (by kernel_rfl) ?_; intro w2 q2 g2 z2)
      | (refine wpList_load_blk (w := w2) rfl 24 _ rfl w.heap.size 6 rfl 24 _ q2 _ Try.underlying24 rfl size_op rfl ?_)
      | (refine wpList_alloc_blk (w := w2) rfl 24 rfl _ zero_op ?_; intro w3 q3 g3 z3)
      | (refine wpList_store_blk (w := w3) rfl 24 _ _ rfl w2.heap.size 6 rfl 24 _ #[.int .i64 2, .int .i64 1, .int .i64 2, .int .i64 3, .int .i64 4, .int .i64 0] rfl q3 size_op rfl rfl (by kernel_rfl) ?_; intro w4 q4 g4 z4)
      | (refine wpList_build_blk rfl 24 #[_, _] rfl #[.int .i64 12, .int .i64 0, .int .i64 0, .int .i64 0, .int .i64 0, .int .i64 2] (by kernel_rfl) ?_)
      | (refine wpList_store_blk (w := w4) rfl 24 _ _ rfl w2.heap.size 6 rfl 24 _ #[.int .i64 12, .int .i64 0, .int .i64 0, .int .i64 0, .int .i64 0, .int .i64 2] rfl q4 size_op rfl rfl (by kernel_rfl) ?_; intro w5 q5 g5 z5))
  have l1 := q1.lt
  have l2 := q2.lt
  have l3 := q3.lt
  have s2 := g2.size
  have s4 := g4.size
  have s5 := g5.size
  have q2 := ((q2.grown g3 (by simp)).grown g4 (by intro e; injection e with e; omega)).grown g5 (by intro e; injection e with e; omega)
  have b5 : Below w.heap.size w w5 := (((((Below.refl _ w).grown g1 (Nat.le_refl _) (by simp)).grown g2 (by omega) (fun r e => by cases e; omega)).grown g3 (by omega) (by simp)).grown g4 (by omega) (fun r e => by cases e; omega)).grown g5 (by omega) (fun r e => by cases e; omega)
  have q5 : Blk w5 w2.heap.size 24 #[.int .i64 12, .int .i64 0, .int .i64 0, .int .i64 0, .int .i64 0, .int .i64 2] := q5
  have hgb : w.heap.size ≤ w2.heap.size := by omega
  clear q1 q3 q4 g1 g2 g3 g4 g5 z1 z2 z3 z4 z5 l1 l2 l3 s2 s4 s5
  go_loopw [11, 12] (fun l i wr => ∃ (k L c : Nat) (A : Option Addr), k ≤ 5 ∧ l = .slice A L c ∧ i = .int .i64 k ∧ Hid ((List.replicate k good).length = L) ∧ OwnL kO 24 wr w5.heap.size (.slice A L c) (List.replicate k good) ∧ Below w5.heap.size w5 wr) (fun _ i _ => 5 - (intOf i).toNat)
  case atStart => exact ⟨0, 0, 0, none, by omega, rfl, rfl, Lib.hid rfl, OwnL.nil _ _ _ _, Below.refl _ _⟩
  case round =>
    obtain ⟨k, L, c, A, hk, rfl, rfl, HL, o, b⟩ := hrel
    have qg := q2.after b
    have qb := q5.after b
    by_cases hlt : k < 5
    · have hlt' : (k : Int) < 5 := by omega
      have hk0 : (0 : Int) ≤ (k : Int) := by omega
      have hS := HS.out k
      have HSk := Lib.hid hS
      clear hS
      go_wp2_with (first
        | (refine wpList_load_blk (w := wr) rfl 24 _ rfl w.heap.size 6 rfl 24 _ qg _ Try.underlying24 rfl size_op rfl ?_)
        | (refine wpList_build_lst (w := wr) (k := kO) rfl 25 24 1 _ rfl Try.underlying25 _ 48 info_op rfl [good] rfl (by kernel_rfl) (by omega) (by decide) ?_; intro v1 p1 h1 y1; have o1 := o.kept h1 (by cases (Value.slice A L c).ownBlock <;> simp); have b1 := b.grown h1 b.size (by simp); have i1 : Lst kO v1 v1.heap.size (some ⟨wr.heap.size, 0, none⟩) 1 [good] := lst_whole p1 rfl (fun x hx => by rw [List.mem_singleton.1 hx]; exact ⟨rfl, rfl, rfl, rfl, rfl, rfl⟩))
        | (at_builtin; refine wpList_append_lst (w := v1) (k := kO) rfl _ _ 25 24 rfl Try.underlying25 _ 48 info_op rfl w5.heap.size v1.heap.size wr.heap.size 0 1 1 (.slice A L c) (List.replicate k good) [good] rfl rfl o1 i1 (by simp; omega) (by omega) b1.size ?_; intro vv v2 o2 h2 t2; rw [← HSk.out] at o2; obtain ⟨A2, L2, c2, rfl, HL2, hc2⟩ := o2.form2; have b2 := b1.grown h2 b1.size (fun r e => (o1.lt r e).1); clear h1 h2 y1 p1 o1 b1 i1 t2))
      go_roundw
      case rel => exact ⟨k + 1, L2, c2, A2, by omega, rfl, by go_num, HL2, o2, b2⟩
      case measure => simp [intOf]; omega
    · have hk5 : k = 5 := by omega
      subst hk5
      obtain ⟨g, rfl, hg⟩ := own_at o (by simp)
      have hL5 : L = 5 := by rw [← HL.out]; simp
      subst hL5
      have hgl : g < wr.heap.size := (o.lt g rfl).2
      clear HL hlt
      have haddr := fun W => run_addr_of (P := Try.prog) 25 24 g 0 5 c NA 6 .i64 Try.underlying25 size_op hNA2 W
      have b := b5.trans (b.mono b5.size)
      rcases (show NP = 0 ∨ NP = 1 ∨ NP = 2 by omega) with rfl | rfl | rfl
      · go_wp2_with (first
          | (refine wpList_load_blk (w := wr) rfl 24 _ rfl w2.heap.size 6 rfl 24 _ qb _ Try.underlying24 rfl size_op rfl ?_)
          | (refine wpList_run (w := wr) rfl (v := .pointer (some ⟨g, NA * 6, none⟩)) (Held.y_addr (S := fun _ => True) rfl rfl rfl (fun W => by have := haddr W; rwa [Nat.zero_add] at this) _ trivial) ?_)
          | (refine wpList_store_lst (k := kO) (w := wr) rfl 24 _ _ rfl size_op w5.heap.size g 5 c NA (List.replicate 5 good) (⟨12, 0, 0, 0, 0, 2⟩ : O) rfl rfl o (by simp; exact hNA2) ?_; intro v1 o1 h1)
          | (refine wpList_build_blk rfl 27 _ rfl #[.int .i64 2, .slice none 0 0, .slice none 0 0, .slice none 0 0] (by kernel_rfl) ?_)
          | (refine wpList_alloc_blk (w := v1) rfl 27 rfl _ zero_prog ?_; intro v2 p2 h2 y2)
          | (refine wpList_store_blk (w := v2) rfl 27 _ _ rfl v1.heap.size 4 rfl 27 _ #[.int .i64 2, .slice none 0 0, .slice none 0 0, .slice none 0 0] rfl p2 info_prog rfl rfl (by kernel_rfl) ?_; intro v3 p3 h3 y3)
          | (refine wpList_run (w := v3) rfl (v := .pointer (some ⟨v1.heap.size, 1, none⟩)) (Held.y_field (S := fun _ => True) (k := 1) (s := 0) rfl rfl Try.underlying27 rfl (by kernel_rfl) rfl _ trivial) ?_)
          | (refine wpList_store_field (w := v3) rfl 25 _ _ rfl v1.heap.size 1 rfl 27 _ (.slice (some ⟨g, 0, none⟩) 5 c) rfl p3 (by simp) (by kernel_rfl) rfl rfl ?_; intro v4 p4 h4 y4))
        have hlv := p2.lt
        have l3v := p2.lt
        have s1v := h1.size
        have p4 : Blk v4 v1.heap.size 27 #[.int .i64 2, .slice (some ⟨g, 0, none⟩) 5 c, .slice none 0 0, .slice none 0 0] := p4
        have HB := Lib.hid (show checkB 2 (line NA (⟨12, 0, 0, 0, 0, 2⟩ : O)) [] [] = false from bad0 HM2.out)
        have HC := Lib.hid (show checkE 2 (line NA (⟨12, 0, 0, 0, 0, 2⟩ : O)) [] [] = 8 by rw [checkE, HB.out]; rfl)
        have HM := Lib.hid (show mapR 2 (line NA (⟨12, 0, 0, 0, 0, 2⟩ : O)) [] [] n 0 0 = [] by rw [mapR, HB.out]; rfl)
        have HF := Lib.hid (show foldV 2 (line NA (⟨12, 0, 0, 0, 0, 2⟩ : O)) [] [] n n = 0 by rw [foldV, HB.out]; rfl)
        have HV := Lib.hid (show finishV 2 (line NA (⟨12, 0, 0, 0, 0, 2⟩ : O)) [] [] n n = 0 by rw [finishV, HB.out]; rfl)
        have b4 : Below w.heap.size w v4 := ((b.grown h1 b.size (fun r e => by cases e; exact Nat.le_trans b5.size hg)).grown h2 (Nat.le_trans b.size s1v) (by simp)).grown h3 (Nat.le_trans b.size (by omega)) (fun r e => by cases e; exact Nat.le_trans b.size s1v) |>.grown h4 (Nat.le_trans b.size (by have := h3.size; omega)) (fun r e => by cases e; exact Nat.le_trans b.size s1v)
        have o4 := ((o1.kept h2 (.inr (by simp [Value.ownBlock]))).kept h3 (.inr (by simp [Value.ownBlock]; omega))).kept h4 (.inr (by simp [Value.ownBlock]; omega))
        have L4 : Lst kO v4 v4.heap.size (some ⟨g, 0, none⟩) 5 (line NA (⟨12, 0, 0, 0, 0, 2⟩ : O)) := OwnL.lst (c := c) o4 HLW.out
        clear o1 o4 h1 h2 h3 h4 y2 y3 y4 p2 p3 b o qg qb q2 q5 HS HGW HLW HM2 HM0 HB haddr
        refine (awake11_any v4).mono ?_
        rintro e v5 ⟨rfl, b5'⟩
        have p5 := p4.after b5'
        have L5 := (L4.below b5').more b5'.size
        have b5' := b4.trans (b5'.mono b4.size)
        clear p4 L4 b4
        go_wp2_with (refine wpList_load_blk (w := v5) rfl 27 _ rfl v1.heap.size 4 rfl 27 _ p5 _ Try.underlying27 rfl info_prog rfl ?_)
        refine (check_any v5.heap.size 2 _ _ _ _ _ _ _ _ _ (line NA (⟨12, 0, 0, 0, 0, 2⟩ : O)) [] [] v5 L5 (Lst.nil _ _ _ _) (Lst.nil _ _ _ _) (Nat.le_refl _)).mono ?_
        rintro e v6 ⟨rfl, b6⟩
        rw [HC.out]
        have p6 := p5.after b6
        have L6 := (L5.below b6).more b6.size
        have b6 := b5'.trans (b6.mono b5'.size)
        clear p5 L5 b5'
        go_wp2_with (first
          | (refine wpList_load_blk (w := v6) rfl 27 _ rfl v1.heap.size 4 rfl 27 _ p6 _ Try.underlying27 rfl info_prog rfl ?_)
          | (refine wpList_run (w := v6) rfl (v := .agg #[.int .i64 0, .int .i64 0]) (y_build (S := fun _ => True) rfl (by kernel_rfl) _ trivial) ?_))
        refine (map_any v6.heap.size 2 _ _ _ _ _ _ _ _ _ (line NA (⟨12, 0, 0, 0, 0, 2⟩ : O)) [] [] n 0 0 v6 hn rfl rfl L6 (Lst.nil _ _ _ _) (Lst.nil _ _ _ _) (Nat.le_refl _)).mono ?_
        rintro e v7 ⟨A', n', c', rfl, o7, b7⟩
        obtain ⟨A9, c9, e9, _⟩ := o7.form
        rw [HM.out] at e9
        injection e9 with e1 e2 e3
        subst e2
        have p7 := p6.after b7
        have L7 := (L6.below b7).more b7.size
        have b7 := b6.trans (b7.mono b6.size)
        clear b6 p6 L6 o7
        go_wp2_with (refine wpList_load_blk (w := v7) rfl 27 _ rfl v1.heap.size 4 rfl 27 _ p7 _ Try.underlying27 rfl info_prog rfl ?_)
        refine (fold_any v7.heap.size 2 _ _ _ _ _ _ _ _ _ (line NA (⟨12, 0, 0, 0, 0, 2⟩ : O)) [] [] n n v7 hn hn L7 (Lst.nil _ _ _ _) (Lst.nil _ _ _ _) (Nat.le_refl _)).mono ?_
        rintro e v8 ⟨rfl, b8⟩
        rw [HF.out]
        have p8 := p7.after b8
        have L8 := (L7.below b8).more b8.size
        have b8 := b7.trans (b8.mono b7.size)
        clear b7 p7 L7
        go_wp2_with (refine wpList_load_blk (w := v8) rfl 27 _ rfl v1.heap.size 4 rfl 27 _ p8 _ Try.underlying27 rfl info_prog rfl ?_)
        refine (finish_any v8.heap.size 2 _ _ _ _ _ _ _ _ _ (line NA (⟨12, 0, 0, 0, 0, 2⟩ : O)) [] [] n n v8 hn hn L8 (Lst.nil _ _ _ _) (Lst.nil _ _ _ _) (Nat.le_refl _)).mono ?_
        rintro e v9 ⟨rfl, b9⟩
        rw [HV.out]
        have b9 := b8.trans (b9.mono b8.size)
        clear b8 p8 L8
        go_wp2_with fail
        go_ret
        exact ⟨rfl, b9⟩
      · go_wp2_with (first
          | (refine wpList_load_blk (w := wr) rfl 24 _ rfl w2.heap.size 6 rfl 24 _ qb _ Try.underlying24 rfl size_op rfl ?_)
          | (refine wpList_run (w := wr) rfl (v := .pointer (some ⟨g, NA * 6, none⟩)) (Held.y_addr (S := fun _ => True) rfl rfl rfl (fun W => by have := haddr W; rwa [Nat.zero_add] at this) _ trivial) ?_)
          | (refine wpList_store_lst (k := kO) (w := wr) rfl 24 _ _ rfl size_op w5.heap.size g 5 c NA (List.replicate 5 good) (⟨12, 0, 0, 0, 0, 2⟩ : O) rfl rfl o (by simp; exact hNA2) ?_; intro v1 o1 h1)
          | (refine wpList_build_blk rfl 27 _ rfl #[.int .i64 2, .slice none 0 0, .slice none 0 0, .slice none 0 0] (by kernel_rfl) ?_)
          | (refine wpList_alloc_blk (w := v1) rfl 27 rfl _ zero_prog ?_; intro v2 p2 h2 y2)
          | (refine wpList_store_blk (w := v2) rfl 27 _ _ rfl v1.heap.size 4 rfl 27 _ #[.int .i64 2, .slice none 0 0, .slice none 0 0, .slice none 0 0] rfl p2 info_prog rfl rfl (by kernel_rfl) ?_; intro v3 p3 h3 y3)
          | (refine wpList_run (w := v3) rfl (v := .pointer (some ⟨v1.heap.size, 2, none⟩)) (Held.y_field (S := fun _ => True) (k := 2) (s := 0) rfl rfl Try.underlying27 rfl (by kernel_rfl) rfl _ trivial) ?_)
          | (refine wpList_store_field (w := v3) rfl 25 _ _ rfl v1.heap.size 2 rfl 27 _ (.slice (some ⟨g, 0, none⟩) 5 c) rfl p3 (by simp) (by kernel_rfl) rfl rfl ?_; intro v4 p4 h4 y4))
        have hlv := p2.lt
        have l3v := p2.lt
        have s1v := h1.size
        have p4 : Blk v4 v1.heap.size 27 #[.int .i64 2, .slice none 0 0, .slice (some ⟨g, 0, none⟩) 5 c, .slice none 0 0] := p4
        have HB := Lib.hid (show checkB 2 [] (line NA (⟨12, 0, 0, 0, 0, 2⟩ : O)) [] = false from bad1 HM0.out)
        have HC := Lib.hid (show checkE 2 [] (line NA (⟨12, 0, 0, 0, 0, 2⟩ : O)) [] = 8 by rw [checkE, HB.out]; rfl)
        have HM := Lib.hid (show mapR 2 [] (line NA (⟨12, 0, 0, 0, 0, 2⟩ : O)) [] n 0 0 = [] by rw [mapR, HB.out]; rfl)
        have HF := Lib.hid (show foldV 2 [] (line NA (⟨12, 0, 0, 0, 0, 2⟩ : O)) [] n n = 0 by rw [foldV, HB.out]; rfl)
        have HV := Lib.hid (show finishV 2 [] (line NA (⟨12, 0, 0, 0, 0, 2⟩ : O)) [] n n = 0 by rw [finishV, HB.out]; rfl)
        have b4 : Below w.heap.size w v4 := ((b.grown h1 b.size (fun r e => by cases e; exact Nat.le_trans b5.size hg)).grown h2 (Nat.le_trans b.size s1v) (by simp)).grown h3 (Nat.le_trans b.size (by omega)) (fun r e => by cases e; exact Nat.le_trans b.size s1v) |>.grown h4 (Nat.le_trans b.size (by have := h3.size; omega)) (fun r e => by cases e; exact Nat.le_trans b.size s1v)
        have o4 := ((o1.kept h2 (.inr (by simp [Value.ownBlock]))).kept h3 (.inr (by simp [Value.ownBlock]; omega))).kept h4 (.inr (by simp [Value.ownBlock]; omega))
        have L4 : Lst kO v4 v4.heap.size (some ⟨g, 0, none⟩) 5 (line NA (⟨12, 0, 0, 0, 0, 2⟩ : O)) := OwnL.lst (c := c) o4 HLW.out
        clear o1 o4 h1 h2 h3 h4 y2 y3 y4 p2 p3 b o qg qb q2 q5 HS HGW HLW HM2 HM0 HB haddr
        refine (awake11_any v4).mono ?_
        rintro e v5 ⟨rfl, b5'⟩
        have p5 := p4.after b5'
        have L5 := (L4.below b5').more b5'.size
        have b5' := b4.trans (b5'.mono b4.size)
        clear p4 L4 b4
        go_wp2_with (refine wpList_load_blk (w := v5) rfl 27 _ rfl v1.heap.size 4 rfl 27 _ p5 _ Try.underlying27 rfl info_prog rfl ?_)
        refine (check_any v5.heap.size 2 _ _ _ _ _ _ _ _ _ [] (line NA (⟨12, 0, 0, 0, 0, 2⟩ : O)) [] v5 (Lst.nil _ _ _ _) L5 (Lst.nil _ _ _ _) (Nat.le_refl _)).mono ?_
        rintro e v6 ⟨rfl, b6⟩
        rw [HC.out]
        have p6 := p5.after b6
        have L6 := (L5.below b6).more b6.size
        have b6 := b5'.trans (b6.mono b5'.size)
        clear p5 L5 b5'
        go_wp2_with (first
          | (refine wpList_load_blk (w := v6) rfl 27 _ rfl v1.heap.size 4 rfl 27 _ p6 _ Try.underlying27 rfl info_prog rfl ?_)
          | (refine wpList_run (w := v6) rfl (v := .agg #[.int .i64 0, .int .i64 0]) (y_build (S := fun _ => True) rfl (by kernel_rfl) _ trivial) ?_))
        refine (map_any v6.heap.size 2 _ _ _ _ _ _ _ _ _ [] (line NA (⟨12, 0, 0, 0, 0, 2⟩ : O)) [] n 0 0 v6 hn rfl rfl (Lst.nil _ _ _ _) L6 (Lst.nil _ _ _ _) (Nat.le_refl _)).mono ?_
        rintro e v7 ⟨A', n', c', rfl, o7, b7⟩
        obtain ⟨A9, c9, e9, _⟩ := o7.form
        rw [HM.out] at e9
        injection e9 with e1 e2 e3
        subst e2
        have p7 := p6.after b7
        have L7 := (L6.below b7).more b7.size
        have b7 := b6.trans (b7.mono b6.size)
        clear b6 p6 L6 o7
        go_wp2_with (refine wpList_load_blk (w := v7) rfl 27 _ rfl v1.heap.size 4 rfl 27 _ p7 _ Try.underlying27 rfl info_prog rfl ?_)
        refine (fold_any v7.heap.size 2 _ _ _ _ _ _ _ _ _ [] (line NA (⟨12, 0, 0, 0, 0, 2⟩ : O)) [] n n v7 hn hn (Lst.nil _ _ _ _) L7 (Lst.nil _ _ _ _) (Nat.le_refl _)).mono ?_
        rintro e v8 ⟨rfl, b8⟩
        rw [HF.out]
        have p8 := p7.after b8
        have L8 := (L7.below b8).more b8.size
        have b8 := b7.trans (b8.mono b7.size)
        clear b7 p7 L7
        go_wp2_with (refine wpList_load_blk (w := v8) rfl 27 _ rfl v1.heap.size 4 rfl 27 _ p8 _ Try.underlying27 rfl info_prog rfl ?_)
        refine (finish_any v8.heap.size 2 _ _ _ _ _ _ _ _ _ [] (line NA (⟨12, 0, 0, 0, 0, 2⟩ : O)) [] n n v8 hn hn (Lst.nil _ _ _ _) L8 (Lst.nil _ _ _ _) (Nat.le_refl _)).mono ?_
        rintro e v9 ⟨rfl, b9⟩
        rw [HV.out]
        have b9 := b8.trans (b9.mono b8.size)
        clear b8 p8 L8
        go_wp2_with fail
        go_ret
        exact ⟨rfl, b9⟩
      · go_wp2_with (first
          | (refine wpList_load_blk (w := wr) rfl 24 _ rfl w2.heap.size 6 rfl 24 _ qb _ Try.underlying24 rfl size_op rfl ?_)
          | (refine wpList_run (w := wr) rfl (v := .pointer (some ⟨g, NA * 6, none⟩)) (Held.y_addr (S := fun _ => True) rfl rfl rfl (fun W => by have := haddr W; rwa [Nat.zero_add] at this) _ trivial) ?_)
          | (refine wpList_store_lst (k := kO) (w := wr) rfl 24 _ _ rfl size_op w5.heap.size g 5 c NA (List.replicate 5 good) (⟨12, 0, 0, 0, 0, 2⟩ : O) rfl rfl o (by simp; exact hNA2) ?_; intro v1 o1 h1)
          | (refine wpList_build_blk rfl 27 _ rfl #[.int .i64 2, .slice none 0 0, .slice none 0 0, .slice none 0 0] (by kernel_rfl) ?_)
          | (refine wpList_alloc_blk (w := v1) rfl 27 rfl _ zero_prog ?_; intro v2 p2 h2 y2)
          | (refine wpList_store_blk (w := v2) rfl 27 _ _ rfl v1.heap.size 4 rfl 27 _ #[.int .i64 2, .slice none 0 0, .slice none 0 0, .slice none 0 0] rfl p2 info_prog rfl rfl (by kernel_rfl) ?_; intro v3 p3 h3 y3)
          | (refine wpList_run (w := v3) rfl (v := .pointer (some ⟨v1.heap.size, 3, none⟩)) (Held.y_field (S := fun _ => True) (k := 3) (s := 0) rfl rfl Try.underlying27 rfl (by kernel_rfl) rfl _ trivial) ?_)
          | (refine wpList_store_field (w := v3) rfl 25 _ _ rfl v1.heap.size 3 rfl 27 _ (.slice (some ⟨g, 0, none⟩) 5 c) rfl p3 (by simp) (by kernel_rfl) rfl rfl ?_; intro v4 p4 h4 y4))
        have hlv := p2.lt
        have l3v := p2.lt
        have s1v := h1.size
        have p4 : Blk v4 v1.heap.size 27 #[.int .i64 2, .slice none 0 0, .slice none 0 0, .slice (some ⟨g, 0, none⟩) 5 c] := p4
        have HB := Lib.hid (show checkB 2 [] [] (line NA (⟨12, 0, 0, 0, 0, 2⟩ : O)) = false from bad2 HM0.out)
        have HC := Lib.hid (show checkE 2 [] [] (line NA (⟨12, 0, 0, 0, 0, 2⟩ : O)) = 8 by rw [checkE, HB.out]; rfl)
        have HM := Lib.hid (show mapR 2 [] [] (line NA (⟨12, 0, 0, 0, 0, 2⟩ : O)) n 0 0 = [] by rw [mapR, HB.out]; rfl)
        have HF := Lib.hid (show foldV 2 [] [] (line NA (⟨12, 0, 0, 0, 0, 2⟩ : O)) n n = 0 by rw [foldV, HB.out]; rfl)
        have HV := Lib.hid (show finishV 2 [] [] (line NA (⟨12, 0, 0, 0, 0, 2⟩ : O)) n n = 0 by rw [finishV, HB.out]; rfl)
        have b4 : Below w.heap.size w v4 := ((b.grown h1 b.size (fun r e => by cases e; exact Nat.le_trans b5.size hg)).grown h2 (Nat.le_trans b.size s1v) (by simp)).grown h3 (Nat.le_trans b.size (by omega)) (fun r e => by cases e; exact Nat.le_trans b.size s1v) |>.grown h4 (Nat.le_trans b.size (by have := h3.size; omega)) (fun r e => by cases e; exact Nat.le_trans b.size s1v)
        have o4 := ((o1.kept h2 (.inr (by simp [Value.ownBlock]))).kept h3 (.inr (by simp [Value.ownBlock]; omega))).kept h4 (.inr (by simp [Value.ownBlock]; omega))
        have L4 : Lst kO v4 v4.heap.size (some ⟨g, 0, none⟩) 5 (line NA (⟨12, 0, 0, 0, 0, 2⟩ : O)) := OwnL.lst (c := c) o4 HLW.out
        clear o1 o4 h1 h2 h3 h4 y2 y3 y4 p2 p3 b o qg qb q2 q5 HS HGW HLW HM2 HM0 HB haddr
        refine (awake11_any v4).mono ?_
        rintro e v5 ⟨rfl, b5'⟩
        have p5 := p4.after b5'
        have L5 := (L4.below b5').more b5'.size
        have b5' := b4.trans (b5'.mono b4.size)
        clear p4 L4 b4
        go_wp2_with (refine wpList_load_blk (w := v5) rfl 27 _ rfl v1.heap.size 4 rfl 27 _ p5 _ Try.underlying27 rfl info_prog rfl ?_)
        refine (check_any v5.heap.size 2 _ _ _ _ _ _ _ _ _ [] [] (line NA (⟨12, 0, 0, 0, 0, 2⟩ : O)) v5 (Lst.nil _ _ _ _) (Lst.nil _ _ _ _) L5 (Nat.le_refl _)).mono ?_
        rintro e v6 ⟨rfl, b6⟩
        rw [HC.out]
        have p6 := p5.after b6
        have L6 := (L5.below b6).more b6.size
        have b6 := b5'.trans (b6.mono b5'.size)
        clear p5 L5 b5'
        go_wp2_with (first
          | (refine wpList_load_blk (w := v6) rfl 27 _ rfl v1.heap.size 4 rfl 27 _ p6 _ Try.underlying27 rfl info_prog rfl ?_)
          | (refine wpList_run (w := v6) rfl (v := .agg #[.int .i64 0, .int .i64 0]) (y_build (S := fun _ => True) rfl (by kernel_rfl) _ trivial) ?_))
        refine (map_any v6.heap.size 2 _ _ _ _ _ _ _ _ _ [] [] (line NA (⟨12, 0, 0, 0, 0, 2⟩ : O)) n 0 0 v6 hn rfl rfl (Lst.nil _ _ _ _) (Lst.nil _ _ _ _) L6 (Nat.le_refl _)).mono ?_
        rintro e v7 ⟨A', n', c', rfl, o7, b7⟩
        obtain ⟨A9, c9, e9, _⟩ := o7.form
        rw [HM.out] at e9
        injection e9 with e1 e2 e3
        subst e2
        have p7 := p6.after b7
        have L7 := (L6.below b7).more b7.size
        have b7 := b6.trans (b7.mono b6.size)
        clear b6 p6 L6 o7
        go_wp2_with (refine wpList_load_blk (w := v7) rfl 27 _ rfl v1.heap.size 4 rfl 27 _ p7 _ Try.underlying27 rfl info_prog rfl ?_)
        refine (fold_any v7.heap.size 2 _ _ _ _ _ _ _ _ _ [] [] (line NA (⟨12, 0, 0, 0, 0, 2⟩ : O)) n n v7 hn hn (Lst.nil _ _ _ _) (Lst.nil _ _ _ _) L7 (Nat.le_refl _)).mono ?_
        rintro e v8 ⟨rfl, b8⟩
        rw [HF.out]
        have p8 := p7.after b8
        have L8 := (L7.below b8).more b8.size
        have b8 := b7.trans (b8.mono b7.size)
        clear b7 p7 L7
        go_wp2_with (refine wpList_load_blk (w := v8) rfl 27 _ rfl v1.heap.size 4 rfl 27 _ p8 _ Try.underlying27 rfl info_prog rfl ?_)
        refine (finish_any v8.heap.size 2 _ _ _ _ _ _ _ _ _ [] [] (line NA (⟨12, 0, 0, 0, 0, 2⟩ : O)) n n v8 hn hn (Lst.nil _ _ _ _) (Lst.nil _ _ _ _) L8 (Nat.le_refl _)).mono ?_
        rintro e v9 ⟨rfl, b9⟩
        rw [HV.out]
        have b9 := b8.trans (b9.mono b8.size)
        clear b8 p8 L8
        go_wp2_with fail
        go_ret
        exact ⟨rfl, b9⟩
set_option maxRecDepth 100000 in
set_option maxHeartbeats 16000000 in
theorem start6 (xp xa xw n : Int) (w : World) (hn : (Lit.int .i64 n).wf = true) (NP NA : Nat) (hNP : wrap64 ((IntKind.u64.wrap xp).tmod 3) = (NP : Int)) (hNP2 : NP < 3) (hNA : wrap64 ((IntKind.u64.wrap xa).tmod 5) = (NA : Int)) (hNA2 : NA < 5) (hW : (IntKind.u64.wrap xw).tmod 7 = 6) :
    Calls Try.prog 5 #[.int .i64 xp, .int .i64 xa, .int .i64 xw, .int .i64 n] w fun e w' => e = .returned (.bool true) ∧ Below w.heap.size w w' := by
  have HM2 := Lib.hid (show mayP (line NA (⟨0, 1, 2, 3, 4, 0⟩ : O)) 2 = false from line_may hNA2 (by decide))
  have HM0 := Lib.hid (show mayP (line NA (⟨0, 1, 2, 3, 4, 0⟩ : O)) 0 = false from line_may hNA2 (by decide))
  have HLW := Lib.hid (line_wf (i := NA) (b := (⟨0, 1, 2, 3, 4, 0⟩ : O)) ⟨rfl, rfl, rfl, rfl, rfl, rfl⟩)
  have HGW := Lib.hid (show ∀ o ∈ List.replicate 5 good, o.wf from fun o ho => by rw [List.eq_of_mem_replicate ho]; exact ⟨rfl, rfl, rfl, rfl, rfl, rfl⟩)
  have HS := Lib.hid (fun k : Nat => (show List.replicate (k + 1) good = List.replicate k good ++ [good] by rw [List.replicate_succ']))
  go_enter Try.func5, Try.ntmps5
  go_wp2_with (first
      | (refine wpList_build_blk rfl 24 #[_, _, _, _, _] rfl #[.int .i64 2, .int .i64 1, .int .i64 2, .int .i64 3, .int .i64 4, .int .i64 0] (by kernel_rfl) ?_)
      | (refine wpList_alloc_blk (w := w) rfl 24 rfl _ zero_op ?_; intro w1 q1 g1 z1)
      | (refine wpList_store_blk (w := w1) rfl 24 _ _ rfl w.heap.size 6 rfl 24 _ #[.int .i64 2, .int .i64 1, .int .i64 2, .int .i64 3, .int .i64 4, .int .i64 0] rfl q1 size_op rfl rfl (by kernel_rfl) ?_; intro w2 q2 g2 z2)
      | (refine wpList_load_blk (w := w2) rfl 24 _ rfl w.heap.size 6 rfl 24 _ q2 _ Try.underlying24 rfl size_op rfl ?_)
      | (refine wpList_alloc_blk (w := w2) rfl 24 rfl _ zero_op ?_; intro w3 q3 g3 z3)
      | (refine wpList_store_blk (w := w3) rfl 24 _ _ rfl w2.heap.size 6 rfl 24 _ #[.int .i64 2, .int .i64 1, .int .i64 2, .int .i64 3, .int .i64 4, .int .i64 0] rfl q3 size_op rfl rfl (by kernel_rfl) ?_; intro w4 q4 g4 z4)
      | (refine wpList_run (w := w4) rfl (v := .pointer (some ⟨w2.heap.size, 0, none⟩)) (Held.y_field (S := fun _ => True) (k := 0) (s := 0) rfl rfl Try.underlying24 rfl (by kernel_rfl) rfl _ trivial) ?_)
      | (refine wpList_store_field (w := w4) rfl 3 _ _ rfl w2.heap.size 0 rfl 24 _ (.int .i64 0) rfl q4 (by simp) (by kernel_rfl) rfl rfl ?_; intro w5 q5 g5 z5))
  have l1 := q1.lt
  have l2 := q2.lt
  have l3 := q3.lt
  have s2 := g2.size
  have s4 := g4.size
  have s5 := g5.size
  have q2 := ((q2.grown g3 (by simp)).grown g4 (by intro e; injection e with e; omega)).grown g5 (by intro e; injection e with e; omega)
  have b5 : Below w.heap.size w w5 := (((((Below.refl _ w).grown g1 (Nat.le_refl _) (by simp)).grown g2 (by omega) (fun r e => by cases e; omega)).grown g3 (by omega) (by simp)).grown g4 (by omega) (fun r e => by cases e; omega)).grown g5 (by omega) (fun r e => by cases e; omega)
  have q5 : Blk w5 w2.heap.size 24 #[.int .i64 0, .int .i64 1, .int .i64 2, .int .i64 3, .int .i64 4, .int .i64 0] := q5
  have hgb : w.heap.size ≤ w2.heap.size := by omega
  clear q1 q3 q4 g1 g2 g3 g4 g5 z1 z2 z3 z4 z5 l1 l2 l3 s2 s4 s5
  go_loopw [11, 12] (fun l i wr => ∃ (k L c : Nat) (A : Option Addr), k ≤ 5 ∧ l = .slice A L c ∧ i = .int .i64 k ∧ Hid ((List.replicate k good).length = L) ∧ OwnL kO 24 wr w5.heap.size (.slice A L c) (List.replicate k good) ∧ Below w5.heap.size w5 wr) (fun _ i _ => 5 - (intOf i).toNat)
  case atStart => exact ⟨0, 0, 0, none, by omega, rfl, rfl, Lib.hid rfl, OwnL.nil _ _ _ _, Below.refl _ _⟩
  case round =>
    obtain ⟨k, L, c, A, hk, rfl, rfl, HL, o, b⟩ := hrel
    have qg := q2.after b
    have qb := q5.after b
    by_cases hlt : k < 5
    · have hlt' : (k : Int) < 5 := by omega
      have hk0 : (0 : Int) ≤ (k : Int) := by omega
      have hS := HS.out k
      have HSk := Lib.hid hS
      clear hS
      go_wp2_with (first
        | (refine wpList_load_blk (w := wr) rfl 24 _ rfl w.heap.size 6 rfl 24 _ qg _ Try.underlying24 rfl size_op rfl ?_)
        | (refine wpList_build_lst (w := wr) (k := kO) rfl 25 24 1 _ rfl Try.underlying25 _ 48 info_op rfl [good] rfl (by kernel_rfl) (by omega) (by decide) ?_; intro v1 p1 h1 y1; have o1 := o.kept h1 (by cases (Value.slice A L c).ownBlock <;> simp); have b1 := b.grown h1 b.size (by simp); have i1 : Lst kO v1 v1.heap.size (some ⟨wr.heap.size, 0, none⟩) 1 [good] := lst_whole p1 rfl (fun x hx => by rw [List.mem_singleton.1 hx]; exact ⟨rfl, rfl, rfl, rfl, rfl, rfl⟩))
        | (at_builtin; refine wpList_append_lst (w := v1) (k := kO) rfl _ _ 25 24 rfl Try.underlying25 _ 48 info_op rfl w5.heap.size v1.heap.size wr.heap.size 0 1 1 (.slice A L c) (List.replicate k good) [good] rfl rfl o1 i1 (by simp; omega) (by omega) b1.size ?_; intro vv v2 o2 h2 t2; rw [← HSk.out] at o2; obtain ⟨A2, L2, c2, rfl, HL2, hc2⟩ := o2.form2; have b2 := b1.grown h2 b1.size (fun r e => (o1.lt r e).1); clear h1 h2 y1 p1 o1 b1 i1 t2))
      go_roundw
      case rel => exact ⟨k + 1, L2, c2, A2, by omega, rfl, by go_num, HL2, o2, b2⟩
      case measure => simp [intOf]; omega
    · have hk5 : k = 5 := by omega
      subst hk5
      obtain ⟨g, rfl, hg⟩ := own_at o (by simp)
      have hL5 : L = 5 := by rw [← HL.out]; simp
      subst hL5
      have hgl : g < wr.heap.size := (o.lt g rfl).2
      clear HL hlt
      have haddr := fun W => run_addr_of (P := Try.prog) 25 24 g 0 5 c NA 6 .i64 Try.underlying25 size_op hNA2 W
      have b := b5.trans (b.mono b5.size)
      rcases (show NP = 0 ∨ NP = 1 ∨ NP = 2 by omega) with rfl | rfl | rfl
      · go_wp2_with (first
          | (refine wpList_load_blk (w := wr) rfl 24 _ rfl w2.heap.size 6 rfl 24 _ qb _ Try.underlying24 rfl size_op rfl ?_)
          | (refine wpList_run (w := wr) rfl (v := .pointer (some ⟨g, NA * 6, none⟩)) (Held.y_addr (S := fun _ => True) rfl rfl rfl (fun W => by have := haddr W; rwa [Nat.zero_add] at this) _ trivial) ?_)
          | (refine wpList_store_lst (k := kO) (w := wr) rfl 24 _ _ rfl size_op w5.heap.size g 5 c NA (List.replicate 5 good) (⟨0, 1, 2, 3, 4, 0⟩ : O) rfl rfl o (by simp; exact hNA2) ?_; intro v1 o1 h1)
          | (refine wpList_build_blk rfl 27 _ rfl #[.int .i64 2, .slice none 0 0, .slice none 0 0, .slice none 0 0] (by kernel_rfl) ?_)
          | (refine wpList_alloc_blk (w := v1) rfl 27 rfl _ zero_prog ?_; intro v2 p2 h2 y2)
          | (refine wpList_store_blk (w := v2) rfl 27 _ _ rfl v1.heap.size 4 rfl 27 _ #[.int .i64 2, .slice none 0 0, .slice none 0 0, .slice none 0 0] rfl p2 info_prog rfl rfl (by kernel_rfl) ?_; intro v3 p3 h3 y3)
          | (refine wpList_run (w := v3) rfl (v := .pointer (some ⟨v1.heap.size, 1, none⟩)) (Held.y_field (S := fun _ => True) (k := 1) (s := 0) rfl rfl Try.underlying27 rfl (by kernel_rfl) rfl _ trivial) ?_)
          | (refine wpList_store_field (w := v3) rfl 25 _ _ rfl v1.heap.size 1 rfl 27 _ (.slice (some ⟨g, 0, none⟩) 5 c) rfl p3 (by simp) (by kernel_rfl) rfl rfl ?_; intro v4 p4 h4 y4))
        have hlv := p2.lt
        have l3v := p2.lt
        have s1v := h1.size
        have p4 : Blk v4 v1.heap.size 27 #[.int .i64 2, .slice (some ⟨g, 0, none⟩) 5 c, .slice none 0 0, .slice none 0 0] := p4
        have HB := Lib.hid (show checkB 2 (line NA (⟨0, 1, 2, 3, 4, 0⟩ : O)) [] [] = false from bad0 HM2.out)
        have HC := Lib.hid (show checkE 2 (line NA (⟨0, 1, 2, 3, 4, 0⟩ : O)) [] [] = 8 by rw [checkE, HB.out]; rfl)
        have HM := Lib.hid (show mapR 2 (line NA (⟨0, 1, 2, 3, 4, 0⟩ : O)) [] [] n 0 0 = [] by rw [mapR, HB.out]; rfl)
        have HF := Lib.hid (show foldV 2 (line NA (⟨0, 1, 2, 3, 4, 0⟩ : O)) [] [] n n = 0 by rw [foldV, HB.out]; rfl)
        have HV := Lib.hid (show finishV 2 (line NA (⟨0, 1, 2, 3, 4, 0⟩ : O)) [] [] n n = 0 by rw [finishV, HB.out]; rfl)
        have b4 : Below w.heap.size w v4 := ((b.grown h1 b.size (fun r e => by cases e; exact Nat.le_trans b5.size hg)).grown h2 (Nat.le_trans b.size s1v) (by simp)).grown h3 (Nat.le_trans b.size (by omega)) (fun r e => by cases e; exact Nat.le_trans b.size s1v) |>.grown h4 (Nat.le_trans b.size (by have := h3.size; omega)) (fun r e => by cases e; exact Nat.le_trans b.size s1v)
        have o4 := ((o1.kept h2 (.inr (by simp [Value.ownBlock]))).kept h3 (.inr (by simp [Value.ownBlock]; omega))).kept h4 (.inr (by simp [Value.ownBlock]; omega))
        have L4 : Lst kO v4 v4.heap.size (some ⟨g, 0, none⟩) 5 (line NA (⟨0, 1, 2, 3, 4, 0⟩ : O)) := OwnL.lst (c := c) o4 HLW.out
        clear o1 o4 h1 h2 h3 h4 y2 y3 y4 p2 p3 b o qg qb q2 q5 HS HGW HLW HM2 HM0 HB haddr
        refine (awake11_any v4).mono ?_
        rintro e v5 ⟨rfl, b5'⟩
        have p5 := p4.after b5'
        have L5 := (L4.below b5').more b5'.size
        have b5' := b4.trans (b5'.mono b4.size)
        clear p4 L4 b4
        go_wp2_with (refine wpList_load_blk (w := v5) rfl 27 _ rfl v1.heap.size 4 rfl 27 _ p5 _ Try.underlying27 rfl info_prog rfl ?_)
        refine (check_any v5.heap.size 2 _ _ _ _ _ _ _ _ _ (line NA (⟨0, 1, 2, 3, 4, 0⟩ : O)) [] [] v5 L5 (Lst.nil _ _ _ _) (Lst.nil _ _ _ _) (Nat.le_refl _)).mono ?_
        rintro e v6 ⟨rfl, b6⟩
        rw [HC.out]
        have p6 := p5.after b6
        have L6 := (L5.below b6).more b6.size
        have b6 := b5'.trans (b6.mono b5'.size)
        clear p5 L5 b5'
        go_wp2_with (first
          | (refine wpList_load_blk (w := v6) rfl 27 _ rfl v1.heap.size 4 rfl 27 _ p6 _ Try.underlying27 rfl info_prog rfl ?_)
          | (refine wpList_run (w := v6) rfl (v := .agg #[.int .i64 0, .int .i64 0]) (y_build (S := fun _ => True) rfl (by kernel_rfl) _ trivial) ?_))
        refine (map_any v6.heap.size 2 _ _ _ _ _ _ _ _ _ (line NA (⟨0, 1, 2, 3, 4, 0⟩ : O)) [] [] n 0 0 v6 hn rfl rfl L6 (Lst.nil _ _ _ _) (Lst.nil _ _ _ _) (Nat.le_refl _)).mono ?_
        rintro e v7 ⟨A', n', c', rfl, o7, b7⟩
        obtain ⟨A9, c9, e9, _⟩ := o7.form
        rw [HM.out] at e9
        injection e9 with e1 e2 e3
        subst e2
        have p7 := p6.after b7
        have L7 := (L6.below b7).more b7.size
        have b7 := b6.trans (b7.mono b6.size)
        clear b6 p6 L6 o7
        go_wp2_with (refine wpList_load_blk (w := v7) rfl 27 _ rfl v1.heap.size 4 rfl 27 _ p7 _ Try.underlying27 rfl info_prog rfl ?_)
        refine (fold_any v7.heap.size 2 _ _ _ _ _ _ _ _ _ (line NA (⟨0, 1, 2, 3, 4, 0⟩ : O)) [] [] n n v7 hn hn L7 (Lst.nil _ _ _ _) (Lst.nil _ _ _ _) (Nat.le_refl _)).mono ?_
        rintro e v8 ⟨rfl, b8⟩
        rw [HF.out]
        have p8 := p7.after b8
        have L8 := (L7.below b8).more b8.size
        have b8 := b7.trans (b8.mono b7.size)
        clear b7 p7 L7
        go_wp2_with (refine wpList_load_blk (w := v8) rfl 27 _ rfl v1.heap.size 4 rfl 27 _ p8 _ Try.underlying27 rfl info_prog rfl ?_)
        refine (finish_any v8.heap.size 2 _ _ _ _ _ _ _ _ _ (line NA (⟨0, 1, 2, 3, 4, 0⟩ : O)) [] [] n n v8 hn hn L8 (Lst.nil _ _ _ _) (Lst.nil _ _ _ _) (Nat.le_refl _)).mono ?_
        rintro e v9 ⟨rfl, b9⟩
        rw [HV.out]
        have b9 := b8.trans (b9.mono b8.size)
        clear b8 p8 L8
        go_wp2_with fail
        go_ret
        exact ⟨rfl, b9⟩
      · go_wp2_with (first
          | (refine wpList_load_blk (w := wr) rfl 24 _ rfl w2.heap.size 6 rfl 24 _ qb _ Try.underlying24 rfl size_op rfl ?_)
          | (refine wpList_run (w := wr) rfl (v := .pointer (some ⟨g, NA * 6, none⟩)) (Held.y_addr (S := fun _ => True) rfl rfl rfl (fun W => by have := haddr W; rwa [Nat.zero_add] at this) _ trivial) ?_)
          | (refine wpList_store_lst (k := kO) (w := wr) rfl 24 _ _ rfl size_op w5.heap.size g 5 c NA (List.replicate 5 good) (⟨0, 1, 2, 3, 4, 0⟩ : O) rfl rfl o (by simp; exact hNA2) ?_; intro v1 o1 h1)
          | (refine wpList_build_blk rfl 27 _ rfl #[.int .i64 2, .slice none 0 0, .slice none 0 0, .slice none 0 0] (by kernel_rfl) ?_)
          | (refine wpList_alloc_blk (w := v1) rfl 27 rfl _ zero_prog ?_; intro v2 p2 h2 y2)
          | (refine wpList_store_blk (w := v2) rfl 27 _ _ rfl v1.heap.size 4 rfl 27 _ #[.int .i64 2, .slice none 0 0, .slice none 0 0, .slice none 0 0] rfl p2 info_prog rfl rfl (by kernel_rfl) ?_; intro v3 p3 h3 y3)
          | (refine wpList_run (w := v3) rfl (v := .pointer (some ⟨v1.heap.size, 2, none⟩)) (Held.y_field (S := fun _ => True) (k := 2) (s := 0) rfl rfl Try.underlying27 rfl (by kernel_rfl) rfl _ trivial) ?_)
          | (refine wpList_store_field (w := v3) rfl 25 _ _ rfl v1.heap.size 2 rfl 27 _ (.slice (some ⟨g, 0, none⟩) 5 c) rfl p3 (by simp) (by kernel_rfl) rfl rfl ?_; intro v4 p4 h4 y4))
        have hlv := p2.lt
        have l3v := p2.lt
        have s1v := h1.size
        have p4 : Blk v4 v1.heap.size 27 #[.int .i64 2, .slice none 0 0, .slice (some ⟨g, 0, none⟩) 5 c, .slice none 0 0] := p4
        have HB := Lib.hid (show checkB 2 [] (line NA (⟨0, 1, 2, 3, 4, 0⟩ : O)) [] = false from bad1 HM0.out)
        have HC := Lib.hid (show checkE 2 [] (line NA (⟨0, 1, 2, 3, 4, 0⟩ : O)) [] = 8 by rw [checkE, HB.out]; rfl)
        have HM := Lib.hid (show mapR 2 [] (line NA (⟨0, 1, 2, 3, 4, 0⟩ : O)) [] n 0 0 = [] by rw [mapR, HB.out]; rfl)
        have HF := Lib.hid (show foldV 2 [] (line NA (⟨0, 1, 2, 3, 4, 0⟩ : O)) [] n n = 0 by rw [foldV, HB.out]; rfl)
        have HV := Lib.hid (show finishV 2 [] (line NA (⟨0, 1, 2, 3, 4, 0⟩ : O)) [] n n = 0 by rw [finishV, HB.out]; rfl)
        have b4 : Below w.heap.size w v4 := ((b.grown h1 b.size (fun r e => by cases e; exact Nat.le_trans b5.size hg)).grown h2 (Nat.le_trans b.size s1v) (by simp)).grown h3 (Nat.le_trans b.size (by omega)) (fun r e => by cases e; exact Nat.le_trans b.size s1v) |>.grown h4 (Nat.le_trans b.size (by have := h3.size; omega)) (fun r e => by cases e; exact Nat.le_trans b.size s1v)
        have o4 := ((o1.kept h2 (.inr (by simp [Value.ownBlock]))).kept h3 (.inr (by simp [Value.ownBlock]; omega))).kept h4 (.inr (by simp [Value.ownBlock]; omega))
        have L4 : Lst kO v4 v4.heap.size (some ⟨g, 0, none⟩) 5 (line NA (⟨0, 1, 2, 3, 4, 0⟩ : O)) := OwnL.lst (c := c) o4 HLW.out
        clear o1 o4 h1 h2 h3 h4 y2 y3 y4 p2 p3 b o qg qb q2 q5 HS HGW HLW HM2 HM0 HB haddr
        refine (awake11_any v4).mono ?_
        rintro e v5 ⟨rfl, b5'⟩
        have p5 := p4.after b5'
        have L5 := (L4.below b5').more b5'.size
        have b5' := b4.trans (b5'.mono b4.size)
        clear p4 L4 b4
        go_wp2_with (refine wpList_load_blk (w := v5) rfl 27 _ rfl v1.heap.size 4 rfl 27 _ p5 _ Try.underlying27 rfl info_prog rfl ?_)
        refine (check_any v5.heap.size 2 _ _ _ _ _ _ _ _ _ [] (line NA (⟨0, 1, 2, 3, 4, 0⟩ : O)) [] v5 (Lst.nil _ _ _ _) L5 (Lst.nil _ _ _ _) (Nat.le_refl _)).mono ?_
        rintro e v6 ⟨rfl, b6⟩
        rw [HC.out]
        have p6 := p5.after b6
        have L6 := (L5.below b6).more b6.size
        have b6 := b5'.trans (b6.mono b5'.size)
        clear p5 L5 b5'
        go_wp2_with (first
          | (refine wpList_load_blk (w := v6) rfl 27 _ rfl v1.heap.size 4 rfl 27 _ p6 _ Try.underlying27 rfl info_prog rfl ?_)
          | (refine wpList_run (w := v6) rfl (v := .agg #[.int .i64 0, .int .i64 0]) (y_build (S := fun _ => True) rfl (by kernel_rfl) _ trivial) ?_))
        refine (map_any v6.heap.size 2 _ _ _ _ _ _ _ _ _ [] (line NA (⟨0, 1, 2, 3, 4, 0⟩ : O)) [] n 0 0 v6 hn rfl rfl (Lst.nil _ _ _ _) L6 (Lst.nil _ _ _ _) (Nat.le_refl _)).mono ?_
        rintro e v7 ⟨A', n', c', rfl, o7, b7⟩
        obtain ⟨A9, c9, e9, _⟩ := o7.form
        rw [HM.out] at e9
        injection e9 with e1 e2 e3
        subst e2
        have p7 := p6.after b7
        have L7 := (L6.below b7).more b7.size
        have b7 := b6.trans (b7.mono b6.size)
        clear b6 p6 L6 o7
        go_wp2_with (refine wpList_load_blk (w := v7) rfl 27 _ rfl v1.heap.size 4 rfl 27 _ p7 _ Try.underlying27 rfl info_prog rfl ?_)
        refine (fold_any v7.heap.size 2 _ _ _ _ _ _ _ _ _ [] (line NA (⟨0, 1, 2, 3, 4, 0⟩ : O)) [] n n v7 hn hn (Lst.nil _ _ _ _) L7 (Lst.nil _ _ _ _) (Nat.le_refl _)).mono ?_
        rintro e v8 ⟨rfl, b8⟩
        rw [HF.out]
        have p8 := p7.after b8
        have L8 := (L7.below b8).more b8.size
        have b8 := b7.trans (b8.mono b7.size)
        clear b7 p7 L7
        go_wp2_with (refine wpList_load_blk (w := v8) rfl 27 _ rfl v1.heap.size 4 rfl 27 _ p8 _ Try.underlying27 rfl info_prog rfl ?_)
        refine (finish_any v8.heap.size 2 _ _ _ _ _ _ _ _ _ [] (line NA (⟨0, 1, 2, 3, 4, 0⟩ : O)) [] n n v8 hn hn (Lst.nil _ _ _ _) L8 (Lst.nil _ _ _ _) (Nat.le_refl _)).mono ?_
        rintro e v9 ⟨rfl, b9⟩
        rw [HV.out]
        have b9 := b8.trans (b9.mono b8.size)
        clear b8 p8 L8
        go_wp2_with fail
        go_ret
        exact ⟨rfl, b9⟩
      · go_wp2_with (first
          | (refine wpList_load_blk (w := wr) rfl 24 _ rfl w2.heap.size 6 rfl 24 _ qb _ Try.underlying24 rfl size_op rfl ?_)
          | (refine wpList_run (w := wr) rfl (v := .pointer (some ⟨g, NA * 6, none⟩)) (Held.y_addr (S := fun _ => True) rfl rfl rfl (fun W => by have := haddr W; rwa [Nat.zero_add] at this) _ trivial) ?_)
          | (refine wpList_store_lst (k := kO) (w := wr) rfl 24 _ _ rfl size_op w5.heap.size g 5 c NA (List.replicate 5 good) (⟨0, 1, 2, 3, 4, 0⟩ : O) rfl rfl o (by simp; exact hNA2) ?_; intro v1 o1 h1)
          | (refine wpList_build_blk rfl 27 _ rfl #[.int .i64 2, .slice none 0 0, .slice none 0 0, .slice none 0 0] (by kernel_rfl) ?_)
          | (refine wpList_alloc_blk (w := v1) rfl 27 rfl _ zero_prog ?_; intro v2 p2 h2 y2)
          | (refine wpList_store_blk (w := v2) rfl 27 _ _ rfl v1.heap.size 4 rfl 27 _ #[.int .i64 2, .slice none 0 0, .slice none 0 0, .slice none 0 0] rfl p2 info_prog rfl rfl (by kernel_rfl) ?_; intro v3 p3 h3 y3)
          | (refine wpList_run (w := v3) rfl (v := .pointer (some ⟨v1.heap.size, 3, none⟩)) (Held.y_field (S := fun _ => True) (k := 3) (s := 0) rfl rfl Try.underlying27 rfl (by kernel_rfl) rfl _ trivial) ?_)
          | (refine wpList_store_field (w := v3) rfl 25 _ _ rfl v1.heap.size 3 rfl 27 _ (.slice (some ⟨g, 0, none⟩) 5 c) rfl p3 (by simp) (by kernel_rfl) rfl rfl ?_; intro v4 p4 h4 y4))
        have hlv := p2.lt
        have l3v := p2.lt
        have s1v := h1.size
        have p4 : Blk v4 v1.heap.size 27 #[.int .i64 2, .slice none 0 0, .slice none 0 0, .slice (some ⟨g, 0, none⟩) 5 c] := p4
        have HB := Lib.hid (show checkB 2 [] [] (line NA (⟨0, 1, 2, 3, 4, 0⟩ : O)) = false from bad2 HM0.out)
        have HC := Lib.hid (show checkE 2 [] [] (line NA (⟨0, 1, 2, 3, 4, 0⟩ : O)) = 8 by rw [checkE, HB.out]; rfl)
        have HM := Lib.hid (show mapR 2 [] [] (line NA (⟨0, 1, 2, 3, 4, 0⟩ : O)) n 0 0 = [] by rw [mapR, HB.out]; rfl)
        have HF := Lib.hid (show foldV 2 [] [] (line NA (⟨0, 1, 2, 3, 4, 0⟩ : O)) n n = 0 by rw [foldV, HB.out]; rfl)
        have HV := Lib.hid (show finishV 2 [] [] (line NA (⟨0, 1, 2, 3, 4, 0⟩ : O)) n n = 0 by rw [finishV, HB.out]; rfl)
        have b4 : Below w.heap.size w v4 := ((b.grown h1 b.size (fun r e => by cases e; exact Nat.le_trans b5.size hg)).grown h2 (Nat.le_trans b.size s1v) (by simp)).grown h3 (Nat.le_trans b.size (by omega)) (fun r e => by cases e; exact Nat.le_trans b.size s1v) |>.grown h4 (Nat.le_trans b.size (by have := h3.size; omega)) (fun r e => by cases e; exact Nat.le_trans b.size s1v)
        have o4 := ((o1.kept h2 (.inr (by simp [Value.ownBlock]))).kept h3 (.inr (by simp [Value.ownBlock]; omega))).kept h4 (.inr (by simp [Value.ownBlock]; omega))
        have L4 : Lst kO v4 v4.heap.size (some ⟨g, 0, none⟩) 5 (line NA (⟨0, 1, 2, 3, 4, 0⟩ : O)) := OwnL.lst (c := c) o4 HLW.out
        clear o1 o4 h1 h2 h3 h4 y2 y3 y4 p2 p3 b o qg qb q2 q5 HS HGW HLW HM2 HM0 HB haddr
        refine (awake11_any v4).mono ?_
        rintro e v5 ⟨rfl, b5'⟩
        have p5 := p4.after b5'
        have L5 := (L4.below b5').more b5'.size
        have b5' := b4.trans (b5'.mono b4.size)
        clear p4 L4 b4
        go_wp2_with (refine wpList_load_blk (w := v5) rfl 27 _ rfl v1.heap.size 4 rfl 27 _ p5 _ Try.underlying27 rfl info_prog rfl ?_)
        refine (check_any v5.heap.size 2 _ _ _ _ _ _ _ _ _ [] [] (line NA (⟨0, 1, 2, 3, 4, 0⟩ : O)) v5 (Lst.nil _ _ _ _) (Lst.nil _ _ _ _) L5 (Nat.le_refl _)).mono ?_
        rintro e v6 ⟨rfl, b6⟩
        rw [HC.out]
        have p6 := p5.after b6
        have L6 := (L5.below b6).more b6.size
        have b6 := b5'.trans (b6.mono b5'.size)
        clear p5 L5 b5'
        go_wp2_with (first
          | (refine wpList_load_blk (w := v6) rfl 27 _ rfl v1.heap.size 4 rfl 27 _ p6 _ Try.underlying27 rfl info_prog rfl ?_)
          | (refine wpList_run (w := v6) rfl (v := .agg #[.int .i64 0, .int .i64 0]) (y_build (S := fun _ => True) rfl (by kernel_rfl) _ trivial) ?_))
        refine (map_any v6.heap.size 2 _ _ _ _ _ _ _ _ _ [] [] (line NA (⟨0, 1, 2, 3, 4, 0⟩ : O)) n 0 0 v6 hn rfl rfl (Lst.nil _ _ _ _) (Lst.nil _ _ _ _) L6 (Nat.le_refl _)).mono ?_
        rintro e v7 ⟨A', n', c', rfl, o7, b7⟩
        obtain ⟨A9, c9, e9, _⟩ := o7.form
        rw [HM.out] at e9
        injection e9 with e1 e2 e3
        subst e2
        have p7 := p6.after b7
        have L7 := (L6.below b7).more b7.size
        have b7 := b6.trans (b7.mono b6.size)
        clear b6 p6 L6 o7
        go_wp2_with (refine wpList_load_blk (w := v7) rfl 27 _ rfl v1.heap.size 4 rfl 27 _ p7 _ Try.underlying27 rfl info_prog rfl ?_)
        refine (fold_any v7.heap.size 2 _ _ _ _ _ _ _ _ _ [] [] (line NA (⟨0, 1, 2, 3, 4, 0⟩ : O)) n n v7 hn hn (Lst.nil _ _ _ _) (Lst.nil _ _ _ _) L7 (Nat.le_refl _)).mono ?_
        rintro e v8 ⟨rfl, b8⟩
        rw [HF.out]
        have p8 := p7.after b8
        have L8 := (L7.below b8).more b8.size
        have b8 := b7.trans (b8.mono b7.size)
        clear b7 p7 L7
        go_wp2_with (refine wpList_load_blk (w := v8) rfl 27 _ rfl v1.heap.size 4 rfl 27 _ p8 _ Try.underlying27 rfl info_prog rfl ?_)
        refine (finish_any v8.heap.size 2 _ _ _ _ _ _ _ _ _ [] [] (line NA (⟨0, 1, 2, 3, 4, 0⟩ : O)) n n v8 hn hn (Lst.nil _ _ _ _) (Lst.nil _ _ _ _) L8 (Nat.le_refl _)).mono ?_
        rintro e v9 ⟨rfl, b9⟩
        rw [HV.out]
        have b9 := b8.trans (b9.mono b8.size)
        clear b8 p8 L8
        go_wp2_with fail
        go_ret
        exact ⟨rfl, b9⟩
theorem start (xp xa xw n : Int) (w : World) (hn : (Lit.int .i64 n).wf = true) :
    Calls Try.prog 5 #[.int .i64 xp, .int .i64 xa, .int .i64 xw, .int .i64 n] w fun e w' => e = .returned (.bool true) ∧ Below w.heap.size w w' := by
  obtain ⟨NP, hNP, hNP2⟩ : ∃ NP : Nat, wrap64 ((IntKind.u64.wrap xp).tmod 3) = (NP : Int) ∧ NP < 3 := by
    have hu0 : 0 ≤ IntKind.u64.wrap xp := by rw [IntKind.wrap_u64]; omega
    have h1 : 0 ≤ IntKind.u64.wrap xp % 3 := Int.emod_nonneg _ (by omega)
    have h2 : IntKind.u64.wrap xp % 3 < 3 := Int.emod_lt_of_pos _ (by omega)
    rw [Int.tmod_eq_emod_of_nonneg hu0]
    exact ⟨(IntKind.u64.wrap xp % 3).toNat, by unfold wrap64; omega, by omega⟩
  obtain ⟨NA, hNA, hNA2⟩ : ∃ NA : Nat, wrap64 ((IntKind.u64.wrap xa).tmod 5) = (NA : Int) ∧ NA < 5 := by
    have hu0 : 0 ≤ IntKind.u64.wrap xa := by rw [IntKind.wrap_u64]; omega
    have h1 : 0 ≤ IntKind.u64.wrap xa % 5 := Int.emod_nonneg _ (by omega)
    have h2 : IntKind.u64.wrap xa % 5 < 5 := Int.emod_lt_of_pos _ (by omega)
    rw [Int.tmod_eq_emod_of_nonneg hu0]
    exact ⟨(IntKind.u64.wrap xa % 5).toNat, by unfold wrap64; omega, by omega⟩
  have hu0 : 0 ≤ IntKind.u64.wrap xw := by rw [IntKind.wrap_u64]; omega
  have h1 : 0 ≤ IntKind.u64.wrap xw % 7 := Int.emod_nonneg _ (by omega)
  have h2 : IntKind.u64.wrap xw % 7 < 7 := Int.emod_lt_of_pos _ (by omega)
  have h3 := Int.tmod_eq_emod_of_nonneg (b := 7) hu0
  rcases (show IntKind.u64.wrap xw % 7 = 0 ∨ IntKind.u64.wrap xw % 7 = 1 ∨ IntKind.u64.wrap xw % 7 = 2 ∨ IntKind.u64.wrap xw % 7 = 3 ∨ IntKind.u64.wrap xw % 7 = 4 ∨ IntKind.u64.wrap xw % 7 = 5 ∨ IntKind.u64.wrap xw % 7 = 6 by omega) with h | h | h | h | h | h | h
  · exact start0 xp xa xw n w hn NP NA hNP hNP2 hNA hNA2 (h3.trans h)
  · exact start1 xp xa xw n w hn NP NA hNP hNP2 hNA hNA2 (h3.trans h)
  · exact start2 xp xa xw n w hn NP NA hNP hNP2 hNA hNA2 (h3.trans h)
  · exact start3 xp xa xw n w hn NP NA hNP hNP2 hNA hNA2 (h3.trans h)
  · exact start4 xp xa xw n w hn NP NA hNP hNP2 hNA hNA2 (h3.trans h)
  · exact start5 xp xa xw n w hn NP NA hNP hNP2 hNA hNA2 (h3.trans h)
  · exact start6 xp xa xw n w hn NP NA hNP hNP2 hNA hNA2 (h3.trans h)
theorem walk (a0 : Int) (a1 : Int) (a2 : Int) (a3 : Int) (w : World) (w0 : (Lit.int .i64 a0).wf = true) (w1 : (Lit.int .i64 a1).wf = true) (w2 : (Lit.int .i64 a2).wf = true) (w3 : (Lit.int .i64 a3).wf = true) :
    Calls Try.prog 5 #[.int .i64 a0, .int .i64 a1, .int .i64 a2, .int .i64 a3] w fun e w' => e = .returned (.bool true) ∧ Below w.heap.size w w' := by
  exact start a0 a1 a2 a3 w w3
set_option maxRecDepth 100000 in
theorem lifted (os : Os) (started : os.Started) (H : Type) (enc : TypeId × Value → H) :
    ReturnsInHanded {} Try.checked os 5 .any (Rows.vmBadSpec.pre6 enc Try.prog Try.f5 Rows.vmBadRow.domain false) (Rows.vmBadSpec.post enc Try.prog Try.f5 false true false false) := by
  refine returnsInHanded_of_change (C := Try.checked) own started (by kernel_rfl) Try.func5
    (ChangeSpec.witness6 (enc := enc) (C := Try.checked) false ⟨#[], #[.int .i64 0, .int .i64 0, .int .i64 0, .int .i64 0], []⟩ 8 (by kernel_rfl) (by kernel_rfl) (by kernel_rfl) (by kernel_rfl)) ?_
  intro W base args ds gs before hval0 hW hcnd _
  have hval : ∀ (j : Nat) t v, Try.f5.params[j]? = some t → args[j]? = some v → Value.okWide Try.prog W .any base t v := hval0
  have hW' := hW
  obtain ⟨p, q, hA0, hV, rfl, hfz, hnd⟩ := hW
  have hA : DataW.TrodAll enc Try.prog W 0 (fun _ => true) true Try.f5.params.toList args.toList ds p := hA0
  rw [Try.params5] at hA hval
  obtain ⟨v0, vs0, d0, ds0, p0, q0, hargs, rfl, rfl, h0, r0⟩ := trodAll_cons hA
  obtain ⟨v1, vs1, d1, ds1, p1, q1, rfl, rfl, rfl, h1, r1⟩ := trodAll_cons r0
  obtain ⟨v2, vs2, d2, ds2, p2, q2, rfl, rfl, rfl, h2, r2⟩ := trodAll_cons r1
  obtain ⟨v3, vs3, d3, ds3, p3, q3, rfl, rfl, rfl, h3, r3⟩ := trodAll_cons r2
  obtain ⟨rfl, rfl, rfl⟩ := trodAll_nil r3
  obtain rfl : args = #[v0, v1, v2, v3] := by cases args; simp_all
  obtain ⟨rfl, rfl⟩ := trodVars_none hV
  obtain ⟨a0, rfl, rfl, rfl, w0⟩ := open_int Try.underlying3 (hval 0 3 v0 rfl rfl) h0
  obtain ⟨a1, rfl, rfl, rfl, w1⟩ := open_int Try.underlying3 (hval 1 3 v1 rfl rfl) h1
  obtain ⟨a2, rfl, rfl, rfl, w2⟩ := open_int Try.underlying3 (hval 2 3 v2 rfl rfl) h2
  obtain ⟨a3, rfl, rfl, rfl, w3⟩ := open_int Try.underlying2 (hval 3 2 v3 rfl rfl) h3
  clear hA0 hval0
  refine (walk a0 a1 a2 a3 W w0 w1 w2 w3).mono fun e W' ⟨he, bel⟩ => ?_
  subst he
  exact ⟨_, rfl, _, _, _, [], _, [], hW', trodAll_mk1 (shut_bool Try.underlying4 _), (trodAll_cons_mk (shut_int Try.underlying3 w0) (trodAll_cons_mk (shut_int Try.underlying3 w1) (trodAll_cons_mk (shut_int Try.underlying3 w2) (trodAll_cons_mk (shut_int Try.underlying2 w3) trodAll_mk0)))), rfl, bel.frame _, fun h => by cases h⟩
theorem over : Rows.vmBadRow.holds Try.pinned (OpenSpec.ofChange Rows.vmBadSpec) :=
  OpenClaim.holds_of_wide 5 Try.f5 rfl rfl rfl rfl rfl rfl rfl ⟨rfl, rfl, rfl, rfl, rfl⟩ rfl rfl rfl rfl rfl (by kernel_rfl) Try.func5 (by kernel_rfl)
    (of_decide_eq_true (by kernel_rfl)) (by unfold Func.isWrapper; first | (rw [if_pos (by decide +kernel)]; kernel_rfl) | (rw [if_neg (by decide +kernel)]; exact ⟨rfl, rfl⟩))
    (fun os started H enc _ => lifted os started H enc)
theorem proved : Rows.VmBadSaid :=
  over
#print axioms proved
end Go.Proofs.Yteipkkakjgfchaa.vmBad
