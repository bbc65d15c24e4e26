/-
  The law StorePlays of package dominolaw18 returns true for every script of calls: whatever is put, and whatever somebody else does, the store answers and shows what the document’s does; a fork goes on by itself.
-/
import Derived.Test.YtbippmbcgkicaaaRows
import Derived.WalkKit
import Derived.ProofKit
import Derived.OpenShut
import Derived.ShutString
import Derived.ChangeOld
import Derived.Below
import Derived.Test.YtbippmbcgkicaaaB16
namespace Go.Proofs.Ytbippmbcgkicaaa.storePlays
open Go.ChangeShapes Go.WideShapes Go.ChangeAt Go.RowKit
open Go.ChangeMaps (open_string shut_string)
open Go.Shelf Go.Proofs.Ytbippmbcgkicaaa Mem Held Sl Go.Proofs.Ytbippmbcgkicaaa.Range Help Sto
theorem own : ownKnob Try.prog.godebug = none := by kernel_rfl
theorem laidOut : laidOutB Try.prog = true := by kernel_rfl
attribute [local irreducible] wpList wpListIn Calls
def PlI (w : World) (r s q : Nat) (wr : World) : Prop :=
  ∃ ow ow2 es l O N M W, Bth w ow ow2 wr s r N M W es l O ∧ Say (absL es) W l O ∧ O.length ≤ q ∧ N ≤ 4 * q ∧ M ≤ 4 * q
theorem bth_forked {w0 w w' : World} {ow ow2 ow9 owf : Nat → Nat} {s r f N M N9 : Nat} {W W9 : Int} {es es9 E : List Ent} {l : List Cr} {O : List Ol} (B : Bth w0 ow ow2 w s r N M W es l O) (B9 : Bth w0 ow9 ow2 w' s r N9 M W9 es9 l O) (HF : SI owf w' f W N E)
    (hlab : ∀ b, owf b ≠ 0 → w.heap.size ≤ b ∨ ow b = 1) : Bth w0 owf ow2 w' f r N M W E l O where
  si := HF
  ref := B9.ref
  new b hb := by
    rcases hlab b hb with h | h
    · exact Nat.le_trans B.bel.size h
    · exact B.new b (by omega)
  rnew := B.rnew
  apart b := by
    rcases Nat.eq_zero_or_pos (owf b) with h | h
    · exact .inl h
    · rcases hlab b (by omega) with h1 | h1
      · exact .inr (B.ref.free h1)
      · rcases B.apart b with h2 | h2
        · omega
        · exact .inr h2
  bel := B9.bel
set_option maxRecDepth 100000 in
set_option maxHeartbeats 32000000 in
theorem start (A : Option Addr) (n c : Nat) (ops : List Opr) (w : World) (h : Lst (kOp w) w w.heap.size A n ops) (hn20 : n ≤ maxLen) :
    Calls Try.prog 3 #[.slice A n c] w fun e w' => e = .returned (.bool true) ∧ Below w.heap.size w w' := by
  have HL := Lib.hid h
  have HN20 := Lib.hid hn20
  clear h hn20
  go_enter Try.func3, Try.ntmps3
  go_wp2_with fail
  refine (new_si w).mono ?_
  rintro r1 w1 ⟨s, ow1, rfl, H1, b1, n1⟩
  go_wp2_with (first
    | (refine wpList_build_blk rfl 29 #[] rfl #[.slice none 0 0, .slice none 0 0] (by kernel_rfl) ?_)
    | (refine wpList_box_blk (w := w1) rfl 29 _ rfl #[.slice none 0 0, .slice none 0 0] rfl ?_; intro w2 q2 g2 z2))
  obtain ⟨r, hr⟩ : ∃ r, w1.heap.size = r := ⟨_, rfl⟩
  rw [hr] at q2
  have b12 : Below w1.heap.size w1 w2 := (Below.refl _ _).grown g2 (Nat.le_refl _) (by simp)
  have R0 : Ref (fun b => if b = r then 2 else 0) w2 r 0 [] [] := ⟨if_pos rfl, ⟨none, 0, 0, none, 0, 0, q2, ⟨OwnL.nil _ _ _ _, (fun b e => by cases e), (fun e he => by cases he), Nat.le_refl _⟩, OwnL.nil _ _ _ _, fun b e => by cases e⟩, (fun o ho => by cases ho), Nat.le_refl _, fun b hb => by
    by_cases e : b = r
    · rw [e]; exact q2.lt
    · exact absurd (if_neg e) hb⟩
  have B0 : Bth w ow1 (fun b => if b = r then 2 else 0) w2 s r 0 0 0 [] [] [] := ⟨H1.below b12, R0, n1, fun b hb => by
    by_cases e : b = r
    · have := b1.size; omega
    · exact absurd (if_neg e) hb, fun b => by
    by_cases e : b = r
    · exact .inl (H1.sto.free (by omega))
    · exact .inr (if_neg e), b1.trans (b12.mono b1.size)⟩
  have S0 : Say (absL []) 0 [] [] := ⟨Doc.nil, Nat.le_refl _⟩
  rw [hr]
  clear H1 b1 n1 g2 z2 b12 R0 q2 hr
  refine (awake18_any w2).mono ?_
  rintro r3 w3 ⟨rfl, b3⟩
  have I0 : PlI w r s 0 w3 := ⟨ow1, _, [], [], [], 0, 0, 0, B0.below b3, S0, Nat.le_refl _, Nat.le_refl _, Nat.le_refl _⟩
  clear B0 S0 b3
  go_wp2_with fail
  go_loopw [3, 5] (fun sv iv wr => ∃ q s : Nat, q ≤ n ∧ sv = .pointer (some ⟨s, 0, none⟩) ∧ iv = .int .i64 q ∧ PlI w r s q wr) (fun _ iv _ => n - (intOf iv).toNat)
  case atStart => exact ⟨0, s, Nat.zero_le _, rfl, rfl, I0⟩
  case round =>
    clear I0
    obtain ⟨q, s, hq, rfl, rfl, ow, ow2, es, l, O, N, M, W, B, sS, hOq, hNq, hMq⟩ := hrel
    by_cases hlt : q < n
    · have hltI : (q : Int) < (n : Int) := by omega
      by_cases h60 : q < 60
      · have h60I : (q : Int) < 60 := by omega
        obtain ⟨b, off, rfl, hbl, hrg⟩ := (HL.out.below B.bel).at_ hlt
        have hwf := HL.out.wf_at hlt
        obtain ⟨o, ho⟩ : ∃ o, ops.getD q (kOp w).d = o := ⟨_, rfl⟩
        rw [ho] at hrg hwf
        obtain ⟨kd, nn, nm, to, Ab, nb, cb, zs⟩ := o
        have hrg : wr.rangeAt b (off + q * 5) [.int .i64 kd, .int .i64 nn, encStr nm, encStr to, .slice Ab nb cb] := hrg
        obtain ⟨hwk, hwn, hnm, hto, hzb⟩ := hwf
        have HNT := Lib.hid (show nm.length ≤ maxLen ∧ to.length ≤ maxLen from ⟨hnm, hto⟩)
        have HWN := Lib.hid (show (Lit.int .i64 nn).wf = true from hwn)
        have HZB := Lib.hid (show Ints w .u8 w.heap.size Ab nb zs from hzb)
        have HQ1 := Lib.hid (show IntKind.i64.wrap ((q : Int) + 1) = ((q + 1 : Nat) : Int) by rw [IntKind.wrap_i64]; omega)
        clear hwk hwn hnm hto hzb ho
        by_cases h1 : kd = 1
        · subst h1
          go_wp2_with (first
            | (refine Held.wpList_run (w := wr) rfl (v := .pointer (some ⟨b, off + q * 5, none⟩)) (Held.y_addr (S := fun _ => True) rfl rfl rfl (Rs.run_addr_of (P := Try.prog) 22 33 b off n c q 5 .i64 Try.underlying22 (by kernel_rfl) hlt) _ trivial) ?_)
            | (refine Held.wpList_run (w := wr) rfl (v := .agg #[.int .i64 1, .int .i64 nn, encStr nm, encStr to, .slice Ab nb cb]) (Rs.y_load_range (S := fun W => W = wr) (cs := [.int .i64 1, .int .i64 nn, encStr nm, encStr to, .slice Ab nb cb]) rfl rfl Try.underlying33 rfl (by kernel_rfl) rfl (fun W hW => hW ▸ hrg) _ rfl) ?_)
            | (refine wpList_alloc_blk (w := wr) rfl 33 rfl #[.int .i64 0, .int .i64 0, encStr [], encStr [], .slice none 0 0] (by kernel_rfl) ?_; intro u1 qu1 gu1 zu1)
            | (refine wpList_store_blk (w := u1) rfl 33 _ _ rfl wr.heap.size 5 rfl 33 _ #[.int .i64 1, .int .i64 nn, encStr nm, encStr to, .slice Ab nb cb] rfl qu1 (by kernel_rfl) rfl rfl (by kernel_rfl) ?_; intro u2 qu2 gu2 zu2; have c0 := qu2.cell (i := 0) rfl; have c4 := qu2.cell (i := 4) rfl))
          have bu2 : Below wr.heap.size wr u2 := ((Below.refl _ _).grown gu1 (Nat.le_refl _) (by simp)).grown gu2 gu1.size (fun b e => by injection e with e; rw [← e]; exact Nat.le_refl _)
          have B2 := B.below bu2
          have HOB := Lib.hid (show ow wr.heap.size = 0 ∧ ow2 wr.heap.size = 0 from ⟨B.si.sto.free (Nat.le_refl _), B.ref.free (Nat.le_refl _)⟩)
          obtain ⟨ob, hob⟩ : ∃ ob, wr.heap.size = ob := ⟨_, rfl⟩
          rw [hob] at HOB qu2 c0 c4
          rw [hob]
          have q2 := qu2
          have gS := B2.si.good
          clear hrg qu1 gu1 zu1 gu2 zu2 qu2 bu2 B hob hbl c0 c4
          refine wp_region_bar (T := fun W => Blk W ob 33 #[.int .i64 1, .int .i64 nn, encStr nm, encStr to, .slice Ab nb cb]) (s := 11) (by kernel_rfl) ?_
          change wpAnyB _ _ _ _ _ _ _ _ _ u2.drew
          have D0 : Below u2.heap.size u2 u2.drew := (Below.refl _ _).drew
          have B0 := B2.below D0
          have T0 : Blk u2.drew ob 33 #[.int .i64 1, .int .i64 nn, encStr nm, encStr to, .slice Ab nb cb] := q2.drew
          refine Held.takeB (v := .pointer (some ⟨s, 0, none⟩)) 0 (some 61) [5, 11] rfl rfl (by kernel_rfl) (by kernel_rfl) (by kernel_rfl) (by kernel_rfl) (fun _ _ _ h => h) rfl (Held.y_move rfl rfl) T0 ?_
          simp only [Act.put, Z1, Z2, Z3]
          refine Held.takeB (v := .pointer (some ⟨ob, 2, none⟩)) 1 (some 62) [2, 5, 11] rfl rfl (by kernel_rfl) (by kernel_rfl) (by kernel_rfl) (by kernel_rfl) (fun _ _ _ h => h) rfl (Held.y_field (k := 2) (s := 0) rfl rfl Try.underlying33 rfl (by kernel_rfl) rfl) T0 ?_
          simp only [Act.put, Z1, Z2, Z3]
          refine Held.takeB (v := encStr nm) 2 (some 63) [5, 11] rfl rfl (by kernel_rfl) (by kernel_rfl) (by kernel_rfl) (by kernel_rfl) (fun _ _ _ h => h) rfl (Held.y_load rfl rfl (by kernel_rfl) (fun W hW => (hW).cell rfl)) T0 ?_
          simp only [Act.put, Z1, Z2, Z3]
          refine Held.takeB (v := .pointer (some ⟨ob, 1, none⟩)) 3 (some 64) [4, 5, 11] rfl rfl (by kernel_rfl) (by kernel_rfl) (by kernel_rfl) (by kernel_rfl) (fun _ _ _ h => h) rfl (Held.y_field (k := 1) (s := 0) rfl rfl Try.underlying33 rfl (by kernel_rfl) rfl) T0 ?_
          simp only [Act.put, Z1, Z2, Z3]
          refine Held.takeB (v := .int .i64 nn) 4 (some 65) [5, 11] rfl rfl (by kernel_rfl) (by kernel_rfl) (by kernel_rfl) (by kernel_rfl) (fun _ _ _ h => h) rfl (Held.y_load rfl rfl (by kernel_rfl) (fun W hW => (hW).cell rfl)) T0 ?_
          simp only [Act.put, Z1, Z2, Z3]
          refine Held.takeB (v := .pointer (some ⟨r, 0, none⟩)) 6 (some 67) [11] rfl rfl (by kernel_rfl) (by kernel_rfl) (by kernel_rfl) (by kernel_rfl) (fun _ _ _ h => h) rfl (Held.y_move rfl rfl) T0 ?_
          simp only [Act.put, Z1, Z2, Z3]
          refine Held.takeB (v := .pointer (some ⟨ob, 2, none⟩)) 7 (some 68) [8, 11] rfl rfl (by kernel_rfl) (by kernel_rfl) (by kernel_rfl) (by kernel_rfl) (fun _ _ _ h => h) rfl (Held.y_field (k := 2) (s := 0) rfl rfl Try.underlying33 rfl (by kernel_rfl) rfl) T0 ?_
          simp only [Act.put, Z1, Z2, Z3]
          refine Held.takeB (v := encStr nm) 8 (some 69) [11] rfl rfl (by kernel_rfl) (by kernel_rfl) (by kernel_rfl) (by kernel_rfl) (fun _ _ _ h => h) rfl (Held.y_load rfl rfl (by kernel_rfl) (fun W hW => (hW).cell rfl)) T0 ?_
          simp only [Act.put, Z1, Z2, Z3]
          refine Held.takeB (v := .pointer (some ⟨ob, 1, none⟩)) 9 (some 70) [10, 11] rfl rfl (by kernel_rfl) (by kernel_rfl) (by kernel_rfl) (by kernel_rfl) (fun _ _ _ h => h) rfl (Held.y_field (k := 1) (s := 0) rfl rfl Try.underlying33 rfl (by kernel_rfl) rfl) T0 ?_
          simp only [Act.put, Z1, Z2, Z3]
          refine Held.takeB (v := .int .i64 nn) 10 (some 71) [11] rfl rfl (by kernel_rfl) (by kernel_rfl) (by kernel_rfl) (by kernel_rfl) (fun _ _ _ h => h) rfl (Held.y_load rfl rfl (by kernel_rfl) (fun W hW => (hW).cell rfl)) T0 ?_
          simp only [Act.put, Z1, Z2, Z3]
          refine Held.oneB 5 (by kernel_rfl) ?_
          refine Held.op_call 5 (some 66) 9 #[.pointer (some ⟨s, 0, none⟩), encStr nm, .int .i64 nn] rfl rfl rfl rfl (enters_of Try.func9 (by kernel_rfl) rfl) (by simp [Act.eval])
            (replay_si B0.si HNT.out.1 (n := nn) (by omega)) ?_
          rintro r5 w5 ⟨rfl, ow5, es5, H5, C5, L5⟩
          have B5 := B0.real H5 C5
          have T0 : Blk w5 ob 33 #[.int .i64 1, .int .i64 nn, encStr nm, encStr to, .slice Ab nb cb] := C5.keep.block ob _ (by show ow ob ≤ 1; rw [HOB.out.1]; omega) T0
          refine ⟨_, rfl, fun _ => T0, ?_⟩
          simp only [Act.put, Z1, Z2, Z3]
          refine Held.oneB 11 (by kernel_rfl) ?_
          refine Held.op_call 11 (some 72) 10 #[.pointer (some ⟨r, 0, none⟩), encStr nm, .int .i64 nn] rfl rfl rfl rfl (enters_of Try.func10 (by kernel_rfl) rfl) (by simp [Act.eval])
            (rreplay_say (x := nm) B5.ref sS gS (by omega) nn) ?_
          rintro r11 w11 ⟨rfl, ow11, l11, H11, C11, S11⟩
          have bB := B5.refd H11 C11
          have qB : Blk w11 ob 33 #[.int .i64 1, .int .i64 nn, encStr nm, encStr to, .slice Ab nb cb] := C11.keep.block ob _ (by show ow2 ob ≤ 1; rw [HOB.out.2]; omega) T0
          rw [← L5] at S11
          refine ⟨_, rfl, fun h => (by cases h.symm.trans (show _ = true by kernel_rfl)), ?_⟩
          simp only [Act.put, Z1, Z2, Z3]
          refine Sto.oneB_v 12 (some 73) (v := .bool true) (by kernel_rfl) rfl rfl rfl (Held.y_eqb rfl rfl rfl (by simp) Try.underlying4) (by kernel_rfl) ?_
          simp only [Act.put, Z1, Z2, Z3]
          refine Sto.oneB_v 13 (some 7) (v := .bool true) (by kernel_rfl) rfl rfl rfl (Held.y_assign rfl rfl) (by kernel_rfl) ?_
          simp only [Act.put, Z1, Z2, Z3]
          refine Held.doneB (by kernel_rfl) ?_ _
          have sB := S11
          have lB : O.length ≤ q + 1 := by omega
          have nB : N + 3 ≤ 4 * (q + 1) := by omega
          have mB : M ≤ 4 * (q + 1) := by omega
          clear S11 B5 B0 T0 D0 C5 C11 H5 H11 L5 B2 q2 sS gS
          have HT := Lib.hid (And.intro bB (And.intro sB (And.intro lB (And.intro nB mB))))
          have hobl := qB.lt
          have a1 := shows_ok (k := nm) bB.si bB.ref sB.doc (by have := sB.few; omega) HNT.out.1 (by omega) (by omega)
          have c2 := qB.cell (i := 2) rfl
          clear bB sB lB nB mB
          go_wp2_with fail
          refine a1.mono ?_
          rintro e8 x1 ⟨rfl, d1⟩
          have q1 := qB.below d1 hobl
          have c3 := q1.cell (i := 3) rfl
          have a2 := shows_ok (k := to) (HT.out.1.below d1).si (HT.out.1.below d1).ref HT.out.2.1.doc (by have := HT.out.2.1.few; have := HT.out.2.2.1; omega) HNT.out.2 (by have := HT.out.2.2.2.1; omega) (by have := HT.out.2.2.2.2; omega)
          clear a1 c2
          go_wp2_with fail
          refine a2.mono ?_
          rintro e9 x2 ⟨rfl, d2⟩
          have d12 := d1.trans (d2.mono d1.size)
          clear a2 c3 q1
          go_wp2_with (refine Held.wpList_run (w := x2) rfl (v := .int .i64 ((q + 1 : Nat) : Int)) (y_addI (S := fun _ => True) (q : Int) 1 rfl rfl rfl HQ1.out _ trivial) ?_)
          go_roundw
          case rel => exact ⟨q + 1, s, by omega, rfl, rfl, _, _, _, _, _, _, _, _, HT.out.1.below d12, HT.out.2.1, HT.out.2.2.1, by have := HT.out.2.2.2.1; omega, by have := HT.out.2.2.2.2; omega⟩
          case measure => simp [intOf]; omega
        by_cases h2 : kd = 2
        · subst h2
          go_wp2_with (first
            | (refine Held.wpList_run (w := wr) rfl (v := .pointer (some ⟨b, off + q * 5, none⟩)) (Held.y_addr (S := fun _ => True) rfl rfl rfl (Rs.run_addr_of (P := Try.prog) 22 33 b off n c q 5 .i64 Try.underlying22 (by kernel_rfl) hlt) _ trivial) ?_)
            | (refine Held.wpList_run (w := wr) rfl (v := .agg #[.int .i64 2, .int .i64 nn, encStr nm, encStr to, .slice Ab nb cb]) (Rs.y_load_range (S := fun W => W = wr) (cs := [.int .i64 2, .int .i64 nn, encStr nm, encStr to, .slice Ab nb cb]) rfl rfl Try.underlying33 rfl (by kernel_rfl) rfl (fun W hW => hW ▸ hrg) _ rfl) ?_)
            | (refine wpList_alloc_blk (w := wr) rfl 33 rfl #[.int .i64 0, .int .i64 0, encStr [], encStr [], .slice none 0 0] (by kernel_rfl) ?_; intro u1 qu1 gu1 zu1)
            | (refine wpList_store_blk (w := u1) rfl 33 _ _ rfl wr.heap.size 5 rfl 33 _ #[.int .i64 2, .int .i64 nn, encStr nm, encStr to, .slice Ab nb cb] rfl qu1 (by kernel_rfl) rfl rfl (by kernel_rfl) ?_; intro u2 qu2 gu2 zu2; have c0 := qu2.cell (i := 0) rfl; have c4 := qu2.cell (i := 4) rfl))
          have bu2 : Below wr.heap.size wr u2 := ((Below.refl _ _).grown gu1 (Nat.le_refl _) (by simp)).grown gu2 gu1.size (fun b e => by injection e with e; rw [← e]; exact Nat.le_refl _)
          have B2 := B.below bu2
          have HOB := Lib.hid (show ow wr.heap.size = 0 ∧ ow2 wr.heap.size = 0 from ⟨B.si.sto.free (Nat.le_refl _), B.ref.free (Nat.le_refl _)⟩)
          obtain ⟨ob, hob⟩ : ∃ ob, wr.heap.size = ob := ⟨_, rfl⟩
          rw [hob] at HOB qu2 c0 c4
          rw [hob]
          have q2 := qu2
          have gS := B2.si.good
          clear hrg qu1 gu1 zu1 gu2 zu2 qu2 bu2 B hob hbl c0 c4
          refine wp_region_bar (T := fun W => Blk W ob 33 #[.int .i64 2, .int .i64 nn, encStr nm, encStr to, .slice Ab nb cb]) (s := 11) (by kernel_rfl) ?_
          change wpAnyB _ _ _ _ _ _ _ _ _ u2.drew
          have D0 : Below u2.heap.size u2 u2.drew := (Below.refl _ _).drew
          have B0 := B2.below D0
          have T0 : Blk u2.drew ob 33 #[.int .i64 2, .int .i64 nn, encStr nm, encStr to, .slice Ab nb cb] := q2.drew
          refine Held.takeB (v := .pointer (some ⟨s, 0, none⟩)) 0 (some 76) [5, 11] rfl rfl (by kernel_rfl) (by kernel_rfl) (by kernel_rfl) (by kernel_rfl) (fun _ _ _ h => h) rfl (Held.y_move rfl rfl) T0 ?_
          simp only [Act.put, Z1, Z2, Z3]
          refine Held.takeB (v := .pointer (some ⟨ob, 2, none⟩)) 1 (some 77) [2, 5, 11] rfl rfl (by kernel_rfl) (by kernel_rfl) (by kernel_rfl) (by kernel_rfl) (fun _ _ _ h => h) rfl (Held.y_field (k := 2) (s := 0) rfl rfl Try.underlying33 rfl (by kernel_rfl) rfl) T0 ?_
          simp only [Act.put, Z1, Z2, Z3]
          refine Held.takeB (v := encStr nm) 2 (some 78) [5, 11] rfl rfl (by kernel_rfl) (by kernel_rfl) (by kernel_rfl) (by kernel_rfl) (fun _ _ _ h => h) rfl (Held.y_load rfl rfl (by kernel_rfl) (fun W hW => (hW).cell rfl)) T0 ?_
          simp only [Act.put, Z1, Z2, Z3]
          refine Held.takeB (v := .pointer (some ⟨ob, 3, none⟩)) 3 (some 79) [4, 5, 11] rfl rfl (by kernel_rfl) (by kernel_rfl) (by kernel_rfl) (by kernel_rfl) (fun _ _ _ h => h) rfl (Held.y_field (k := 3) (s := 0) rfl rfl Try.underlying33 rfl (by kernel_rfl) rfl) T0 ?_
          simp only [Act.put, Z1, Z2, Z3]
          refine Held.takeB (v := encStr to) 4 (some 80) [5, 11] rfl rfl (by kernel_rfl) (by kernel_rfl) (by kernel_rfl) (by kernel_rfl) (fun _ _ _ h => h) rfl (Held.y_load rfl rfl (by kernel_rfl) (fun W hW => (hW).cell rfl)) T0 ?_
          simp only [Act.put, Z1, Z2, Z3]
          refine Held.takeB (v := .pointer (some ⟨r, 0, none⟩)) 6 (some 82) [11] rfl rfl (by kernel_rfl) (by kernel_rfl) (by kernel_rfl) (by kernel_rfl) (fun _ _ _ h => h) rfl (Held.y_move rfl rfl) T0 ?_
          simp only [Act.put, Z1, Z2, Z3]
          refine Held.takeB (v := .pointer (some ⟨ob, 2, none⟩)) 7 (some 83) [8, 11] rfl rfl (by kernel_rfl) (by kernel_rfl) (by kernel_rfl) (by kernel_rfl) (fun _ _ _ h => h) rfl (Held.y_field (k := 2) (s := 0) rfl rfl Try.underlying33 rfl (by kernel_rfl) rfl) T0 ?_
          simp only [Act.put, Z1, Z2, Z3]
          refine Held.takeB (v := encStr nm) 8 (some 84) [11] rfl rfl (by kernel_rfl) (by kernel_rfl) (by kernel_rfl) (by kernel_rfl) (fun _ _ _ h => h) rfl (Held.y_load rfl rfl (by kernel_rfl) (fun W hW => (hW).cell rfl)) T0 ?_
          simp only [Act.put, Z1, Z2, Z3]
          refine Held.takeB (v := .pointer (some ⟨ob, 3, none⟩)) 9 (some 85) [10, 11] rfl rfl (by kernel_rfl) (by kernel_rfl) (by kernel_rfl) (by kernel_rfl) (fun _ _ _ h => h) rfl (Held.y_field (k := 3) (s := 0) rfl rfl Try.underlying33 rfl (by kernel_rfl) rfl) T0 ?_
          simp only [Act.put, Z1, Z2, Z3]
          refine Held.takeB (v := encStr to) 10 (some 86) [11] rfl rfl (by kernel_rfl) (by kernel_rfl) (by kernel_rfl) (by kernel_rfl) (fun _ _ _ h => h) rfl (Held.y_load rfl rfl (by kernel_rfl) (fun W hW => (hW).cell rfl)) T0 ?_
          simp only [Act.put, Z1, Z2, Z3]
          refine Held.oneB 5 (by kernel_rfl) ?_
          refine Held.op_call 5 (some 81) 11 #[.pointer (some ⟨s, 0, none⟩), encStr nm, encStr to] rfl rfl rfl rfl (enters_of Try.func11 (by kernel_rfl) rfl) (by simp [Act.eval])
            (swap_si B0.si HNT.out.1 HNT.out.2 (by omega)) ?_
          rintro r5 w5 ⟨rfl, ow5, es5, H5, C5, L5⟩
          have B5 := B0.real H5 C5
          have T0 : Blk w5 ob 33 #[.int .i64 2, .int .i64 nn, encStr nm, encStr to, .slice Ab nb cb] := C5.keep.block ob _ (by show ow ob ≤ 1; rw [HOB.out.1]; omega) T0
          refine ⟨_, rfl, fun _ => T0, ?_⟩
          simp only [Act.put, Z1, Z2, Z3]
          refine Held.oneB 11 (by kernel_rfl) ?_
          refine Held.op_call 11 (some 87) 12 #[.pointer (some ⟨r, 0, none⟩), encStr nm, encStr to] rfl rfl rfl rfl (enters_of Try.func12 (by kernel_rfl) rfl) (by simp [Act.eval])
            (rswap_say (x := nm) (y := to) B5.ref sS gS (by omega)) ?_
          rintro r11 w11 ⟨rfl, ow11, l11, H11, C11, S11⟩
          have bB := B5.refd H11 C11
          have qB : Blk w11 ob 33 #[.int .i64 2, .int .i64 nn, encStr nm, encStr to, .slice Ab nb cb] := C11.keep.block ob _ (by show ow2 ob ≤ 1; rw [HOB.out.2]; omega) T0
          rw [← L5] at S11
          refine ⟨_, rfl, fun h => (by cases h.symm.trans (show _ = true by kernel_rfl)), ?_⟩
          simp only [Act.put, Z1, Z2, Z3]
          refine Sto.oneB_v 12 (some 88) (v := .bool true) (by kernel_rfl) rfl rfl rfl (Held.y_eqb rfl rfl rfl (by simp) Try.underlying4) (by kernel_rfl) ?_
          simp only [Act.put, Z1, Z2, Z3]
          refine Sto.oneB_v 13 (some 7) (v := .bool true) (by kernel_rfl) rfl rfl rfl (Held.y_assign rfl rfl) (by kernel_rfl) ?_
          simp only [Act.put, Z1, Z2, Z3]
          refine Held.doneB (by kernel_rfl) ?_ _
          have sB := S11
          have lB : O.length ≤ q + 1 := by omega
          have nB : N + 3 ≤ 4 * (q + 1) := by omega
          have mB : M ≤ 4 * (q + 1) := by omega
          clear S11 B5 B0 T0 D0 C5 C11 H5 H11 L5 B2 q2 sS gS
          have HT := Lib.hid (And.intro bB (And.intro sB (And.intro lB (And.intro nB mB))))
          have hobl := qB.lt
          have a1 := shows_ok (k := nm) bB.si bB.ref sB.doc (by have := sB.few; omega) HNT.out.1 (by omega) (by omega)
          have c2 := qB.cell (i := 2) rfl
          clear bB sB lB nB mB
          go_wp2_with fail
          refine a1.mono ?_
          rintro e8 x1 ⟨rfl, d1⟩
          have q1 := qB.below d1 hobl
          have c3 := q1.cell (i := 3) rfl
          have a2 := shows_ok (k := to) (HT.out.1.below d1).si (HT.out.1.below d1).ref HT.out.2.1.doc (by have := HT.out.2.1.few; have := HT.out.2.2.1; omega) HNT.out.2 (by have := HT.out.2.2.2.1; omega) (by have := HT.out.2.2.2.2; omega)
          clear a1 c2
          go_wp2_with fail
          refine a2.mono ?_
          rintro e9 x2 ⟨rfl, d2⟩
          have d12 := d1.trans (d2.mono d1.size)
          clear a2 c3 q1
          go_wp2_with (refine Held.wpList_run (w := x2) rfl (v := .int .i64 ((q + 1 : Nat) : Int)) (y_addI (S := fun _ => True) (q : Int) 1 rfl rfl rfl HQ1.out _ trivial) ?_)
          go_roundw
          case rel => exact ⟨q + 1, s, by omega, rfl, rfl, _, _, _, _, _, _, _, _, HT.out.1.below d12, HT.out.2.1, HT.out.2.2.1, by have := HT.out.2.2.2.1; omega, by have := HT.out.2.2.2.2; omega⟩
          case measure => simp [intOf]; omega
        by_cases h3 : kd = 3
        · subst h3
          go_wp2_with (first
            | (refine Held.wpList_run (w := wr) rfl (v := .pointer (some ⟨b, off + q * 5, none⟩)) (Held.y_addr (S := fun _ => True) rfl rfl rfl (Rs.run_addr_of (P := Try.prog) 22 33 b off n c q 5 .i64 Try.underlying22 (by kernel_rfl) hlt) _ trivial) ?_)
            | (refine Held.wpList_run (w := wr) rfl (v := .agg #[.int .i64 3, .int .i64 nn, encStr nm, encStr to, .slice Ab nb cb]) (Rs.y_load_range (S := fun W => W = wr) (cs := [.int .i64 3, .int .i64 nn, encStr nm, encStr to, .slice Ab nb cb]) rfl rfl Try.underlying33 rfl (by kernel_rfl) rfl (fun W hW => hW ▸ hrg) _ rfl) ?_)
            | (refine wpList_alloc_blk (w := wr) rfl 33 rfl #[.int .i64 0, .int .i64 0, encStr [], encStr [], .slice none 0 0] (by kernel_rfl) ?_; intro u1 qu1 gu1 zu1)
            | (refine wpList_store_blk (w := u1) rfl 33 _ _ rfl wr.heap.size 5 rfl 33 _ #[.int .i64 3, .int .i64 nn, encStr nm, encStr to, .slice Ab nb cb] rfl qu1 (by kernel_rfl) rfl rfl (by kernel_rfl) ?_; intro u2 qu2 gu2 zu2; have c0 := qu2.cell (i := 0) rfl; have c4 := qu2.cell (i := 4) rfl))
          have bu2 : Below wr.heap.size wr u2 := ((Below.refl _ _).grown gu1 (Nat.le_refl _) (by simp)).grown gu2 gu1.size (fun b e => by injection e with e; rw [← e]; exact Nat.le_refl _)
          have B2 := B.below bu2
          have HOB := Lib.hid (show ow wr.heap.size = 0 ∧ ow2 wr.heap.size = 0 from ⟨B.si.sto.free (Nat.le_refl _), B.ref.free (Nat.le_refl _)⟩)
          obtain ⟨ob, hob⟩ : ∃ ob, wr.heap.size = ob := ⟨_, rfl⟩
          rw [hob] at HOB qu2 c0 c4
          rw [hob]
          have q2 := qu2
          have gS := B2.si.good
          clear hrg qu1 gu1 zu1 gu2 zu2 qu2 bu2 B hob hbl c0 c4
          refine wp_region_bar (T := fun W => Blk W ob 33 #[.int .i64 3, .int .i64 nn, encStr nm, encStr to, .slice Ab nb cb]) (s := 7) (by kernel_rfl) ?_
          change wpAnyB _ _ _ _ _ _ _ _ _ u2.drew
          have D0 : Below u2.heap.size u2 u2.drew := (Below.refl _ _).drew
          have B0 := B2.below D0
          have T0 : Blk u2.drew ob 33 #[.int .i64 3, .int .i64 nn, encStr nm, encStr to, .slice Ab nb cb] := q2.drew
          refine Held.takeB (v := .pointer (some ⟨s, 0, none⟩)) 0 (some 91) [3, 7] rfl rfl (by kernel_rfl) (by kernel_rfl) (by kernel_rfl) (by kernel_rfl) (fun _ _ _ h => h) rfl (Held.y_move rfl rfl) T0 ?_
          simp only [Act.put, Z1, Z2, Z3]
          refine Held.takeB (v := .pointer (some ⟨ob, 2, none⟩)) 1 (some 92) [2, 3, 7] rfl rfl (by kernel_rfl) (by kernel_rfl) (by kernel_rfl) (by kernel_rfl) (fun _ _ _ h => h) rfl (Held.y_field (k := 2) (s := 0) rfl rfl Try.underlying33 rfl (by kernel_rfl) rfl) T0 ?_
          simp only [Act.put, Z1, Z2, Z3]
          refine Held.takeB (v := encStr nm) 2 (some 93) [3, 7] rfl rfl (by kernel_rfl) (by kernel_rfl) (by kernel_rfl) (by kernel_rfl) (fun _ _ _ h => h) rfl (Held.y_load rfl rfl (by kernel_rfl) (fun W hW => (hW).cell rfl)) T0 ?_
          simp only [Act.put, Z1, Z2, Z3]
          refine Held.takeB (v := .pointer (some ⟨r, 0, none⟩)) 4 (some 95) [7] rfl rfl (by kernel_rfl) (by kernel_rfl) (by kernel_rfl) (by kernel_rfl) (fun _ _ _ h => h) rfl (Held.y_move rfl rfl) T0 ?_
          simp only [Act.put, Z1, Z2, Z3]
          refine Held.takeB (v := .pointer (some ⟨ob, 2, none⟩)) 5 (some 96) [6, 7] rfl rfl (by kernel_rfl) (by kernel_rfl) (by kernel_rfl) (by kernel_rfl) (fun _ _ _ h => h) rfl (Held.y_field (k := 2) (s := 0) rfl rfl Try.underlying33 rfl (by kernel_rfl) rfl) T0 ?_
          simp only [Act.put, Z1, Z2, Z3]
          refine Held.takeB (v := encStr nm) 6 (some 97) [7] rfl rfl (by kernel_rfl) (by kernel_rfl) (by kernel_rfl) (by kernel_rfl) (fun _ _ _ h => h) rfl (Held.y_load rfl rfl (by kernel_rfl) (fun W hW => (hW).cell rfl)) T0 ?_
          simp only [Act.put, Z1, Z2, Z3]
          refine Held.oneB 3 (by kernel_rfl) ?_
          refine Held.op_call 3 (some 94) 13 #[.pointer (some ⟨s, 0, none⟩), encStr nm] rfl rfl rfl rfl (enters_of Try.func13 (by kernel_rfl) rfl) (by simp [Act.eval])
            (delete_si B0.si HNT.out.1 (by omega)) ?_
          rintro r5 w5 ⟨rfl, ow5, es5, H5, C5, L5⟩
          have B5 := B0.real H5 C5
          have T0 : Blk w5 ob 33 #[.int .i64 3, .int .i64 nn, encStr nm, encStr to, .slice Ab nb cb] := C5.keep.block ob _ (by show ow ob ≤ 1; rw [HOB.out.1]; omega) T0
          refine ⟨_, rfl, fun _ => T0, ?_⟩
          simp only [Act.put, Z1, Z2, Z3]
          refine Held.oneB 7 (by kernel_rfl) ?_
          refine Held.op_call 7 (some 98) 14 #[.pointer (some ⟨r, 0, none⟩), encStr nm] rfl rfl rfl rfl (enters_of Try.func14 (by kernel_rfl) rfl) (by simp [Act.eval])
            (rdelete_say (x := nm) B5.ref sS gS (by omega)) ?_
          rintro r11 w11 ⟨rfl, ow11, l11, H11, C11, S11⟩
          have bB := B5.refd H11 C11
          have qB : Blk w11 ob 33 #[.int .i64 3, .int .i64 nn, encStr nm, encStr to, .slice Ab nb cb] := C11.keep.block ob _ (by show ow2 ob ≤ 1; rw [HOB.out.2]; omega) T0
          rw [← L5] at S11
          refine ⟨_, rfl, fun h => (by cases h.symm.trans (show _ = true by kernel_rfl)), ?_⟩
          simp only [Act.put, Z1, Z2, Z3]
          refine Sto.oneB_v 8 (some 99) (v := .bool true) (by kernel_rfl) rfl rfl rfl (Held.y_eqb rfl rfl rfl (by simp) Try.underlying4) (by kernel_rfl) ?_
          simp only [Act.put, Z1, Z2, Z3]
          refine Sto.oneB_v 9 (some 7) (v := .bool true) (by kernel_rfl) rfl rfl rfl (Held.y_assign rfl rfl) (by kernel_rfl) ?_
          simp only [Act.put, Z1, Z2, Z3]
          refine Held.doneB (by kernel_rfl) ?_ _
          have sB := S11
          have lB : O.length ≤ q + 1 := by omega
          have nB : N + 3 ≤ 4 * (q + 1) := by omega
          have mB : M ≤ 4 * (q + 1) := by omega
          clear S11 B5 B0 T0 D0 C5 C11 H5 H11 L5 B2 q2 sS gS
          have HT := Lib.hid (And.intro bB (And.intro sB (And.intro lB (And.intro nB mB))))
          have hobl := qB.lt
          have a1 := shows_ok (k := nm) bB.si bB.ref sB.doc (by have := sB.few; omega) HNT.out.1 (by omega) (by omega)
          have c2 := qB.cell (i := 2) rfl
          clear bB sB lB nB mB
          go_wp2_with fail
          refine a1.mono ?_
          rintro e8 x1 ⟨rfl, d1⟩
          have q1 := qB.below d1 hobl
          have c3 := q1.cell (i := 3) rfl
          have a2 := shows_ok (k := to) (HT.out.1.below d1).si (HT.out.1.below d1).ref HT.out.2.1.doc (by have := HT.out.2.1.few; have := HT.out.2.2.1; omega) HNT.out.2 (by have := HT.out.2.2.2.1; omega) (by have := HT.out.2.2.2.2; omega)
          clear a1 c2
          go_wp2_with fail
          refine a2.mono ?_
          rintro e9 x2 ⟨rfl, d2⟩
          have d12 := d1.trans (d2.mono d1.size)
          clear a2 c3 q1
          go_wp2_with (refine Held.wpList_run (w := x2) rfl (v := .int .i64 ((q + 1 : Nat) : Int)) (y_addI (S := fun _ => True) (q : Int) 1 rfl rfl rfl HQ1.out _ trivial) ?_)
          go_roundw
          case rel => exact ⟨q + 1, s, by omega, rfl, rfl, _, _, _, _, _, _, _, _, HT.out.1.below d12, HT.out.2.1, HT.out.2.2.1, by have := HT.out.2.2.2.1; omega, by have := HT.out.2.2.2.2; omega⟩
          case measure => simp [intOf]; omega
        by_cases h4 : kd = 4
        · subst h4
          go_wp2_with (first
            | (refine Held.wpList_run (w := wr) rfl (v := .pointer (some ⟨b, off + q * 5, none⟩)) (Held.y_addr (S := fun _ => True) rfl rfl rfl (Rs.run_addr_of (P := Try.prog) 22 33 b off n c q 5 .i64 Try.underlying22 (by kernel_rfl) hlt) _ trivial) ?_)
            | (refine Held.wpList_run (w := wr) rfl (v := .agg #[.int .i64 4, .int .i64 nn, encStr nm, encStr to, .slice Ab nb cb]) (Rs.y_load_range (S := fun W => W = wr) (cs := [.int .i64 4, .int .i64 nn, encStr nm, encStr to, .slice Ab nb cb]) rfl rfl Try.underlying33 rfl (by kernel_rfl) rfl (fun W hW => hW ▸ hrg) _ rfl) ?_)
            | (refine wpList_alloc_blk (w := wr) rfl 33 rfl #[.int .i64 0, .int .i64 0, encStr [], encStr [], .slice none 0 0] (by kernel_rfl) ?_; intro u1 qu1 gu1 zu1)
            | (refine wpList_store_blk (w := u1) rfl 33 _ _ rfl wr.heap.size 5 rfl 33 _ #[.int .i64 4, .int .i64 nn, encStr nm, encStr to, .slice Ab nb cb] rfl qu1 (by kernel_rfl) rfl rfl (by kernel_rfl) ?_; intro u2 qu2 gu2 zu2; have c0 := qu2.cell (i := 0) rfl; have c4 := qu2.cell (i := 4) rfl))
          have bu2 : Below wr.heap.size wr u2 := ((Below.refl _ _).grown gu1 (Nat.le_refl _) (by simp)).grown gu2 gu1.size (fun b e => by injection e with e; rw [← e]; exact Nat.le_refl _)
          have B2 := B.below bu2
          have HOB := Lib.hid (show ow wr.heap.size = 0 ∧ ow2 wr.heap.size = 0 from ⟨B.si.sto.free (Nat.le_refl _), B.ref.free (Nat.le_refl _)⟩)
          obtain ⟨ob, hob⟩ : ∃ ob, wr.heap.size = ob := ⟨_, rfl⟩
          rw [hob] at HOB qu2 c0 c4
          rw [hob]
          have q2 := qu2
          have gS := B2.si.good
          clear hrg qu1 gu1 zu1 gu2 zu2 qu2 bu2 B hob hbl c0 c4
          refine wp_region_bar (T := fun W => Blk W ob 33 #[.int .i64 4, .int .i64 nn, encStr nm, encStr to, .slice Ab nb cb]) (s := 7) (by kernel_rfl) ?_
          change wpAnyB _ _ _ _ _ _ _ _ _ u2.drew
          have D0 : Below u2.heap.size u2 u2.drew := (Below.refl _ _).drew
          have B0 := B2.below D0
          have T0 : Blk u2.drew ob 33 #[.int .i64 4, .int .i64 nn, encStr nm, encStr to, .slice Ab nb cb] := q2.drew
          refine Held.takeB (v := .pointer (some ⟨s, 0, none⟩)) 0 (some 102) [3, 7] rfl rfl (by kernel_rfl) (by kernel_rfl) (by kernel_rfl) (by kernel_rfl) (fun _ _ _ h => h) rfl (Held.y_move rfl rfl) T0 ?_
          simp only [Act.put, Z1, Z2, Z3]
          refine Held.takeB (v := .pointer (some ⟨ob, 1, none⟩)) 1 (some 103) [2, 3, 7] rfl rfl (by kernel_rfl) (by kernel_rfl) (by kernel_rfl) (by kernel_rfl) (fun _ _ _ h => h) rfl (Held.y_field (k := 1) (s := 0) rfl rfl Try.underlying33 rfl (by kernel_rfl) rfl) T0 ?_
          simp only [Act.put, Z1, Z2, Z3]
          refine Held.takeB (v := .int .i64 nn) 2 (some 104) [3, 7] rfl rfl (by kernel_rfl) (by kernel_rfl) (by kernel_rfl) (by kernel_rfl) (fun _ _ _ h => h) rfl (Held.y_load rfl rfl (by kernel_rfl) (fun W hW => (hW).cell rfl)) T0 ?_
          simp only [Act.put, Z1, Z2, Z3]
          refine Held.takeB (v := .pointer (some ⟨r, 0, none⟩)) 4 (some 106) [7] rfl rfl (by kernel_rfl) (by kernel_rfl) (by kernel_rfl) (by kernel_rfl) (fun _ _ _ h => h) rfl (Held.y_move rfl rfl) T0 ?_
          simp only [Act.put, Z1, Z2, Z3]
          refine Held.takeB (v := .pointer (some ⟨ob, 1, none⟩)) 5 (some 107) [6, 7] rfl rfl (by kernel_rfl) (by kernel_rfl) (by kernel_rfl) (by kernel_rfl) (fun _ _ _ h => h) rfl (Held.y_field (k := 1) (s := 0) rfl rfl Try.underlying33 rfl (by kernel_rfl) rfl) T0 ?_
          simp only [Act.put, Z1, Z2, Z3]
          refine Held.takeB (v := .int .i64 nn) 6 (some 108) [7] rfl rfl (by kernel_rfl) (by kernel_rfl) (by kernel_rfl) (by kernel_rfl) (fun _ _ _ h => h) rfl (Held.y_load rfl rfl (by kernel_rfl) (fun W hW => (hW).cell rfl)) T0 ?_
          simp only [Act.put, Z1, Z2, Z3]
          refine Held.oneB 3 (by kernel_rfl) ?_
          refine Held.op_call 3 (some 105) 15 #[.pointer (some ⟨s, 0, none⟩), .int .i64 nn] rfl rfl rfl rfl (enters_of Try.func15 (by kernel_rfl) rfl) (by simp [Act.eval])
            (roll_si B0.si (n := nn) (by omega)) ?_
          rintro r5 w5 ⟨rfl, ow5, es5, H5, C5, L5⟩
          have B5 := B0.real H5 C5
          have T0 : Blk w5 ob 33 #[.int .i64 4, .int .i64 nn, encStr nm, encStr to, .slice Ab nb cb] := C5.keep.block ob _ (by show ow ob ≤ 1; rw [HOB.out.1]; omega) T0
          refine ⟨_, rfl, fun _ => T0, ?_⟩
          simp only [Act.put, Z1, Z2, Z3]
          refine Held.oneB 7 (by kernel_rfl) ?_
          refine Held.op_call 7 (some 109) 16 #[.pointer (some ⟨r, 0, none⟩), .int .i64 nn] rfl rfl rfl rfl (enters_of Try.func16 (by kernel_rfl) rfl) (by simp [Act.eval])
            (rroll_say B5.ref sS gS (by omega) nn) ?_
          rintro r11 w11 ⟨rfl, ow11, l11, H11, C11, S11⟩
          have bB := B5.refd H11 C11
          have qB : Blk w11 ob 33 #[.int .i64 4, .int .i64 nn, encStr nm, encStr to, .slice Ab nb cb] := C11.keep.block ob _ (by show ow2 ob ≤ 1; rw [HOB.out.2]; omega) T0
          rw [← L5] at S11
          refine ⟨_, rfl, fun h => (by cases h.symm.trans (show _ = true by kernel_rfl)), ?_⟩
          simp only [Act.put, Z1, Z2, Z3]
          refine Sto.oneB_v 8 (some 110) (v := .bool true) (by kernel_rfl) rfl rfl rfl (Held.y_eqb rfl rfl rfl (by simp) Try.underlying4) (by kernel_rfl) ?_
          simp only [Act.put, Z1, Z2, Z3]
          refine Sto.oneB_v 9 (some 7) (v := .bool true) (by kernel_rfl) rfl rfl rfl (Held.y_assign rfl rfl) (by kernel_rfl) ?_
          simp only [Act.put, Z1, Z2, Z3]
          refine Held.doneB (by kernel_rfl) ?_ _
          have sB := S11
          have lB : O.length ≤ q + 1 := by omega
          have nB : N + 3 ≤ 4 * (q + 1) := by omega
          have mB : M ≤ 4 * (q + 1) := by omega
          clear S11 B5 B0 T0 D0 C5 C11 H5 H11 L5 B2 q2 sS gS
          have HT := Lib.hid (And.intro bB (And.intro sB (And.intro lB (And.intro nB mB))))
          have hobl := qB.lt
          have a1 := shows_ok (k := nm) bB.si bB.ref sB.doc (by have := sB.few; omega) HNT.out.1 (by omega) (by omega)
          have c2 := qB.cell (i := 2) rfl
          clear bB sB lB nB mB
          go_wp2_with fail
          refine a1.mono ?_
          rintro e8 x1 ⟨rfl, d1⟩
          have q1 := qB.below d1 hobl
          have c3 := q1.cell (i := 3) rfl
          have a2 := shows_ok (k := to) (HT.out.1.below d1).si (HT.out.1.below d1).ref HT.out.2.1.doc (by have := HT.out.2.1.few; have := HT.out.2.2.1; omega) HNT.out.2 (by have := HT.out.2.2.2.1; omega) (by have := HT.out.2.2.2.2; omega)
          clear a1 c2
          go_wp2_with fail
          refine a2.mono ?_
          rintro e9 x2 ⟨rfl, d2⟩
          have d12 := d1.trans (d2.mono d1.size)
          clear a2 c3 q1
          go_wp2_with (refine Held.wpList_run (w := x2) rfl (v := .int .i64 ((q + 1 : Nat) : Int)) (y_addI (S := fun _ => True) (q : Int) 1 rfl rfl rfl HQ1.out _ trivial) ?_)
          go_roundw
          case rel => exact ⟨q + 1, s, by omega, rfl, rfl, _, _, _, _, _, _, _, _, HT.out.1.below d12, HT.out.2.1, HT.out.2.2.1, by have := HT.out.2.2.2.1; omega, by have := HT.out.2.2.2.2; omega⟩
          case measure => simp [intOf]; omega
        by_cases h5 : kd = 5
        · subst h5
          go_wp2_with (first
            | (refine Held.wpList_run (w := wr) rfl (v := .pointer (some ⟨b, off + q * 5, none⟩)) (Held.y_addr (S := fun _ => True) rfl rfl rfl (Rs.run_addr_of (P := Try.prog) 22 33 b off n c q 5 .i64 Try.underlying22 (by kernel_rfl) hlt) _ trivial) ?_)
            | (refine Held.wpList_run (w := wr) rfl (v := .agg #[.int .i64 5, .int .i64 nn, encStr nm, encStr to, .slice Ab nb cb]) (Rs.y_load_range (S := fun W => W = wr) (cs := [.int .i64 5, .int .i64 nn, encStr nm, encStr to, .slice Ab nb cb]) rfl rfl Try.underlying33 rfl (by kernel_rfl) rfl (fun W hW => hW ▸ hrg) _ rfl) ?_)
            | (refine wpList_alloc_blk (w := wr) rfl 33 rfl #[.int .i64 0, .int .i64 0, encStr [], encStr [], .slice none 0 0] (by kernel_rfl) ?_; intro u1 qu1 gu1 zu1)
            | (refine wpList_store_blk (w := u1) rfl 33 _ _ rfl wr.heap.size 5 rfl 33 _ #[.int .i64 5, .int .i64 nn, encStr nm, encStr to, .slice Ab nb cb] rfl qu1 (by kernel_rfl) rfl rfl (by kernel_rfl) ?_; intro u2 qu2 gu2 zu2; have c0 := qu2.cell (i := 0) rfl; have c4 := qu2.cell (i := 4) rfl))
          have bu2 : Below wr.heap.size wr u2 := ((Below.refl _ _).grown gu1 (Nat.le_refl _) (by simp)).grown gu2 gu1.size (fun b e => by injection e with e; rw [← e]; exact Nat.le_refl _)
          have B2 := B.below bu2
          have HOB := Lib.hid (show ow wr.heap.size = 0 ∧ ow2 wr.heap.size = 0 from ⟨B.si.sto.free (Nat.le_refl _), B.ref.free (Nat.le_refl _)⟩)
          obtain ⟨ob, hob⟩ : ∃ ob, wr.heap.size = ob := ⟨_, rfl⟩
          rw [hob] at HOB qu2 c0 c4
          rw [hob]
          have q2 := qu2
          have gS := B2.si.good
          clear hrg qu1 gu1 zu1 gu2 zu2 qu2 bu2 B hob hbl c0 c4
          refine wp_region_bar (T := fun W => Blk W ob 33 #[.int .i64 5, .int .i64 nn, encStr nm, encStr to, .slice Ab nb cb]) (s := 11) (by kernel_rfl) ?_
          change wpAnyB _ _ _ _ _ _ _ _ _ u2.drew
          have D0 : Below u2.heap.size u2 u2.drew := (Below.refl _ _).drew
          have B0 := B2.below D0
          have T0 : Blk u2.drew ob 33 #[.int .i64 5, .int .i64 nn, encStr nm, encStr to, .slice Ab nb cb] := q2.drew
          refine Held.takeB (v := .pointer (some ⟨s, 0, none⟩)) 0 (some 113) [5, 11] rfl rfl (by kernel_rfl) (by kernel_rfl) (by kernel_rfl) (by kernel_rfl) (fun _ _ _ h => h) rfl (Held.y_move rfl rfl) T0 ?_
          simp only [Act.put, Z1, Z2, Z3]
          refine Held.takeB (v := .pointer (some ⟨ob, 2, none⟩)) 1 (some 114) [2, 5, 11] rfl rfl (by kernel_rfl) (by kernel_rfl) (by kernel_rfl) (by kernel_rfl) (fun _ _ _ h => h) rfl (Held.y_field (k := 2) (s := 0) rfl rfl Try.underlying33 rfl (by kernel_rfl) rfl) T0 ?_
          simp only [Act.put, Z1, Z2, Z3]
          refine Held.takeB (v := encStr nm) 2 (some 115) [5, 11] rfl rfl (by kernel_rfl) (by kernel_rfl) (by kernel_rfl) (by kernel_rfl) (fun _ _ _ h => h) rfl (Held.y_load rfl rfl (by kernel_rfl) (fun W hW => (hW).cell rfl)) T0 ?_
          simp only [Act.put, Z1, Z2, Z3]
          refine Held.takeB (v := .pointer (some ⟨ob, 1, none⟩)) 3 (some 116) [4, 5, 11] rfl rfl (by kernel_rfl) (by kernel_rfl) (by kernel_rfl) (by kernel_rfl) (fun _ _ _ h => h) rfl (Held.y_field (k := 1) (s := 0) rfl rfl Try.underlying33 rfl (by kernel_rfl) rfl) T0 ?_
          simp only [Act.put, Z1, Z2, Z3]
          refine Held.takeB (v := .int .i64 nn) 4 (some 117) [5, 11] rfl rfl (by kernel_rfl) (by kernel_rfl) (by kernel_rfl) (by kernel_rfl) (fun _ _ _ h => h) rfl (Held.y_load rfl rfl (by kernel_rfl) (fun W hW => (hW).cell rfl)) T0 ?_
          simp only [Act.put, Z1, Z2, Z3]
          refine Held.takeB (v := .pointer (some ⟨r, 0, none⟩)) 6 (some 119) [11] rfl rfl (by kernel_rfl) (by kernel_rfl) (by kernel_rfl) (by kernel_rfl) (fun _ _ _ h => h) rfl (Held.y_move rfl rfl) T0 ?_
          simp only [Act.put, Z1, Z2, Z3]
          refine Held.takeB (v := .pointer (some ⟨ob, 2, none⟩)) 7 (some 120) [8, 11] rfl rfl (by kernel_rfl) (by kernel_rfl) (by kernel_rfl) (by kernel_rfl) (fun _ _ _ h => h) rfl (Held.y_field (k := 2) (s := 0) rfl rfl Try.underlying33 rfl (by kernel_rfl) rfl) T0 ?_
          simp only [Act.put, Z1, Z2, Z3]
          refine Held.takeB (v := encStr nm) 8 (some 121) [11] rfl rfl (by kernel_rfl) (by kernel_rfl) (by kernel_rfl) (by kernel_rfl) (fun _ _ _ h => h) rfl (Held.y_load rfl rfl (by kernel_rfl) (fun W hW => (hW).cell rfl)) T0 ?_
          simp only [Act.put, Z1, Z2, Z3]
          refine Held.takeB (v := .pointer (some ⟨ob, 1, none⟩)) 9 (some 122) [10, 11] rfl rfl (by kernel_rfl) (by kernel_rfl) (by kernel_rfl) (by kernel_rfl) (fun _ _ _ h => h) rfl (Held.y_field (k := 1) (s := 0) rfl rfl Try.underlying33 rfl (by kernel_rfl) rfl) T0 ?_
          simp only [Act.put, Z1, Z2, Z3]
          refine Held.takeB (v := .int .i64 nn) 10 (some 123) [11] rfl rfl (by kernel_rfl) (by kernel_rfl) (by kernel_rfl) (by kernel_rfl) (fun _ _ _ h => h) rfl (Held.y_load rfl rfl (by kernel_rfl) (fun W hW => (hW).cell rfl)) T0 ?_
          simp only [Act.put, Z1, Z2, Z3]
          refine Held.oneB 5 (by kernel_rfl) ?_
          refine Held.op_call 5 (some 118) 17 #[.pointer (some ⟨s, 0, none⟩), encStr nm, .int .i64 nn] rfl rfl rfl rfl (enters_of Try.func17 (by kernel_rfl) rfl) (by simp [Act.eval])
            (flip_si B0.si HNT.out.1 HWN.out (by omega)) ?_
          rintro r5 w5 ⟨rfl, ow5, es5, H5, C5, L5⟩
          have B5 := B0.real H5 C5
          have T0 : Blk w5 ob 33 #[.int .i64 5, .int .i64 nn, encStr nm, encStr to, .slice Ab nb cb] := C5.keep.block ob _ (by show ow ob ≤ 1; rw [HOB.out.1]; omega) T0
          refine ⟨_, rfl, fun _ => T0, ?_⟩
          simp only [Act.put, Z1, Z2, Z3]
          refine Held.oneB 11 (by kernel_rfl) ?_
          refine Held.op_call 11 (some 124) 18 #[.pointer (some ⟨r, 0, none⟩), encStr nm, .int .i64 nn] rfl rfl rfl rfl (enters_of Try.func18 (by kernel_rfl) rfl) (by simp [Act.eval])
            (rflip_say (x := nm) B5.ref sS gS (by omega) nn HWN.out) ?_
          rintro r11 w11 ⟨rfl, ow11, l11, H11, C11, S11⟩
          have bB := B5.refd H11 C11
          have qB : Blk w11 ob 33 #[.int .i64 5, .int .i64 nn, encStr nm, encStr to, .slice Ab nb cb] := C11.keep.block ob _ (by show ow2 ob ≤ 1; rw [HOB.out.2]; omega) T0
          rw [← L5] at S11
          refine ⟨_, rfl, fun h => (by cases h.symm.trans (show _ = true by kernel_rfl)), ?_⟩
          simp only [Act.put, Z1, Z2, Z3]
          refine Sto.oneB_v 12 (some 125) (v := .bool true) (by kernel_rfl) rfl rfl rfl (Held.y_eqb rfl rfl rfl (by simp) Try.underlying4) (by kernel_rfl) ?_
          simp only [Act.put, Z1, Z2, Z3]
          refine Sto.oneB_v 13 (some 7) (v := .bool true) (by kernel_rfl) rfl rfl rfl (Held.y_assign rfl rfl) (by kernel_rfl) ?_
          simp only [Act.put, Z1, Z2, Z3]
          refine Held.doneB (by kernel_rfl) ?_ _
          have sB := S11
          have lB : O.length ≤ q + 1 := by omega
          have nB : N + 3 ≤ 4 * (q + 1) := by omega
          have mB : M ≤ 4 * (q + 1) := by omega
          clear S11 B5 B0 T0 D0 C5 C11 H5 H11 L5 B2 q2 sS gS
          have HT := Lib.hid (And.intro bB (And.intro sB (And.intro lB (And.intro nB mB))))
          have hobl := qB.lt
          have a1 := shows_ok (k := nm) bB.si bB.ref sB.doc (by have := sB.few; omega) HNT.out.1 (by omega) (by omega)
          have c2 := qB.cell (i := 2) rfl
          clear bB sB lB nB mB
          go_wp2_with fail
          refine a1.mono ?_
          rintro e8 x1 ⟨rfl, d1⟩
          have q1 := qB.below d1 hobl
          have c3 := q1.cell (i := 3) rfl
          have a2 := shows_ok (k := to) (HT.out.1.below d1).si (HT.out.1.below d1).ref HT.out.2.1.doc (by have := HT.out.2.1.few; have := HT.out.2.2.1; omega) HNT.out.2 (by have := HT.out.2.2.2.1; omega) (by have := HT.out.2.2.2.2; omega)
          clear a1 c2
          go_wp2_with fail
          refine a2.mono ?_
          rintro e9 x2 ⟨rfl, d2⟩
          have d12 := d1.trans (d2.mono d1.size)
          clear a2 c3 q1
          go_wp2_with (refine Held.wpList_run (w := x2) rfl (v := .int .i64 ((q + 1 : Nat) : Int)) (y_addI (S := fun _ => True) (q : Int) 1 rfl rfl rfl HQ1.out _ trivial) ?_)
          go_roundw
          case rel => exact ⟨q + 1, s, by omega, rfl, rfl, _, _, _, _, _, _, _, _, HT.out.1.below d12, HT.out.2.1, HT.out.2.2.1, by have := HT.out.2.2.2.1; omega, by have := HT.out.2.2.2.2; omega⟩
          case measure => simp [intOf]; omega
        by_cases h6 : kd = 6
        · subst h6
          go_wp2_with (first
            | (refine Held.wpList_run (w := wr) rfl (v := .pointer (some ⟨b, off + q * 5, none⟩)) (Held.y_addr (S := fun _ => True) rfl rfl rfl (Rs.run_addr_of (P := Try.prog) 22 33 b off n c q 5 .i64 Try.underlying22 (by kernel_rfl) hlt) _ trivial) ?_)
            | (refine Held.wpList_run (w := wr) rfl (v := .agg #[.int .i64 6, .int .i64 nn, encStr nm, encStr to, .slice Ab nb cb]) (Rs.y_load_range (S := fun W => W = wr) (cs := [.int .i64 6, .int .i64 nn, encStr nm, encStr to, .slice Ab nb cb]) rfl rfl Try.underlying33 rfl (by kernel_rfl) rfl (fun W hW => hW ▸ hrg) _ rfl) ?_)
            | (refine wpList_alloc_blk (w := wr) rfl 33 rfl #[.int .i64 0, .int .i64 0, encStr [], encStr [], .slice none 0 0] (by kernel_rfl) ?_; intro u1 qu1 gu1 zu1)
            | (refine wpList_store_blk (w := u1) rfl 33 _ _ rfl wr.heap.size 5 rfl 33 _ #[.int .i64 6, .int .i64 nn, encStr nm, encStr to, .slice Ab nb cb] rfl qu1 (by kernel_rfl) rfl rfl (by kernel_rfl) ?_; intro u2 qu2 gu2 zu2; have c0 := qu2.cell (i := 0) rfl; have c4 := qu2.cell (i := 4) rfl))
          have bu2 : Below wr.heap.size wr u2 := ((Below.refl _ _).grown gu1 (Nat.le_refl _) (by simp)).grown gu2 gu1.size (fun b e => by injection e with e; rw [← e]; exact Nat.le_refl _)
          have B2 := B.below bu2
          have HOB := Lib.hid (show ow wr.heap.size = 0 ∧ ow2 wr.heap.size = 0 from ⟨B.si.sto.free (Nat.le_refl _), B.ref.free (Nat.le_refl _)⟩)
          obtain ⟨ob, hob⟩ : ∃ ob, wr.heap.size = ob := ⟨_, rfl⟩
          rw [hob] at HOB qu2 c0 c4
          rw [hob]
          have q2 := qu2
          have gS := B2.si.good
          clear hrg qu1 gu1 zu1 gu2 zu2 qu2 bu2 B hob hbl c0 c4
          have a1 := fork_si B2.si (by omega)
          refine a1.mono ?_
          rintro e5 w5 ⟨f, owf, E, rfl, HF, hent, hlab, b5⟩
          have B5 := B2.below b5
          have q5 := q2.below b5 q2.lt
          clear a1
          go_wp2_with (refine wpList_build_row1 (w := w5) rfl 31 5 1 _ rfl Try.underlying31 .u8 1 Help.info_u8 [7] rfl (by simp [Act.eval]) (fun z hz => by rw [List.mem_singleton.1 hz]; rfl) (by omega) (by omega) ?_; intro w6 q6 g6 z6)
          have b6 : Below w5.heap.size w5 w6 := (Below.refl _ _).grown g6 (Nat.le_refl _) (by simp)
          have B6 := B5.below b6
          have HF6 := HF.below b6
          have qo6 := q5.below b6 q5.lt
          have hr6 : Rd (fun b => ow b ≤ 1) w6 (⟨some ⟨w5.heap.size, 0, none⟩, 1, 1, [7]⟩ : Bs) := ⟨q6.ints (n := 1) (by simp), by show (1 : Nat) ≤ 1099511627776; omega, fun b off p e _ => by injection e with e; injection e with e; rw [← e, B5.si.sto.free (Nat.le_refl _)]; omega⟩
          have a2 := put_si B6.si (k := [103, 111, 110, 101]) (by decide) hr6 (by omega)
          clear q6 g6 z6 hr6
          refine a2.mono ?_
          rintro e7 w7 ⟨rfl, ow7, es7, H7, C7, -⟩
          have B7 := B6.real H7 C7
          have qo7 : Blk w7 ob 33 #[.int .i64 6, .int .i64 nn, encStr nm, encStr to, .slice Ab nb cb] := C7.keep.block ob _ (by show ow ob ≤ 1; rw [HOB.out.1]; omega) qo6
          have hle : ∀ b, owf b ≠ 0 → ow b ≤ 1 := fun b hb => by
            rcases hlab b hb with h | h
            · have := B2.si.sto.free h; omega
            · omega
          have HF7 := HF6.keep (C7.keep.less fun b hb => hle b hb)
          have a3 := roll_si B7.si (n := 3) (by omega)
          clear a2
          go_wp2_with fail
          refine a3.mono ?_
          rintro e9 w9 ⟨rfl, ow9, es9, H9, C9, -⟩
          have B9 := B7.real H9 C9
          have qB : Blk w9 ob 33 #[.int .i64 6, .int .i64 nn, encStr nm, encStr to, .slice Ab nb cb] := C9.keep.block ob _ (by show ow7 ob ≤ 1; rw [C7.same ob qo6.lt, HOB.out.1]; omega) qo7
          have HF9 := HF7.keep (C9.keep.less fun b hb => by rw [C7.same b (HF6.sto.low b hb)]; exact hle b hb)
          have bB := bth_forked B2 B9 HF9 hlab
          have sB := sS.same hent
          have lB : O.length ≤ q + 1 := by omega
          have nB : N ≤ 4 * (q + 1) := by omega
          have mB : M ≤ 4 * (q + 1) := by omega
          clear a3 B9 H9 C9 B7 C7 H7 qo7 HF9 HF7 HF6 HF hent hlab hle B6 B5 b5 b6 q5 qo6 B2 q2 sS gS
          have HT := Lib.hid (And.intro bB (And.intro sB (And.intro lB (And.intro nB mB))))
          have hobl := qB.lt
          have a1 := shows_ok (k := nm) bB.si bB.ref sB.doc (by have := sB.few; omega) HNT.out.1 (by omega) (by omega)
          have c2 := qB.cell (i := 2) rfl
          clear bB sB lB nB mB
          go_wp2_with fail
          refine a1.mono ?_
          rintro e8 x1 ⟨rfl, d1⟩
          have q1 := qB.below d1 hobl
          have c3 := q1.cell (i := 3) rfl
          have a2 := shows_ok (k := to) (HT.out.1.below d1).si (HT.out.1.below d1).ref HT.out.2.1.doc (by have := HT.out.2.1.few; have := HT.out.2.2.1; omega) HNT.out.2 (by have := HT.out.2.2.2.1; omega) (by have := HT.out.2.2.2.2; omega)
          clear a1 c2
          go_wp2_with fail
          refine a2.mono ?_
          rintro e9 x2 ⟨rfl, d2⟩
          have d12 := d1.trans (d2.mono d1.size)
          clear a2 c3 q1
          go_wp2_with (refine Held.wpList_run (w := x2) rfl (v := .int .i64 ((q + 1 : Nat) : Int)) (y_addI (S := fun _ => True) (q : Int) 1 rfl rfl rfl HQ1.out _ trivial) ?_)
          go_roundw
          case rel => exact ⟨q + 1, f, by omega, rfl, rfl, _, _, _, _, _, _, _, _, HT.out.1.below d12, HT.out.2.1, HT.out.2.2.1, by have := HT.out.2.2.2.1; omega, by have := HT.out.2.2.2.2; omega⟩
          case measure => simp [intOf]; omega
        by_cases hbig : 300 < nb
        · have hbI : (300 : Int) < (nb : Int) := by omega
          go_wp2_with (first
            | (refine Held.wpList_run (w := wr) rfl (v := .pointer (some ⟨b, off + q * 5, none⟩)) (Held.y_addr (S := fun _ => True) rfl rfl rfl (Rs.run_addr_of (P := Try.prog) 22 33 b off n c q 5 .i64 Try.underlying22 (by kernel_rfl) hlt) _ trivial) ?_)
            | (refine Held.wpList_run (w := wr) rfl (v := .agg #[.int .i64 kd, .int .i64 nn, encStr nm, encStr to, .slice Ab nb cb]) (Rs.y_load_range (S := fun W => W = wr) (cs := [.int .i64 kd, .int .i64 nn, encStr nm, encStr to, .slice Ab nb cb]) rfl rfl Try.underlying33 rfl (by kernel_rfl) rfl (fun W hW => hW ▸ hrg) _ rfl) ?_)
            | (refine wpList_alloc_blk (w := wr) rfl 33 rfl #[.int .i64 0, .int .i64 0, encStr [], encStr [], .slice none 0 0] (by kernel_rfl) ?_; intro u1 qu1 gu1 zu1)
            | (refine wpList_store_blk (w := u1) rfl 33 _ _ rfl wr.heap.size 5 rfl 33 _ #[.int .i64 kd, .int .i64 nn, encStr nm, encStr to, .slice Ab nb cb] rfl qu1 (by kernel_rfl) rfl rfl (by kernel_rfl) ?_; intro u2 qu2 gu2 zu2; have c0 := qu2.cell (i := 0) rfl; have c4 := qu2.cell (i := 4) rfl)
            | (refine Held.wpList_run (w := u2) rfl (v := .int .i64 ((q + 1 : Nat) : Int)) (y_addI (S := fun _ => True) (q : Int) 1 rfl rfl rfl HQ1.out _ trivial) ?_))
          have bu2 : Below wr.heap.size wr u2 := ((Below.refl _ _).grown gu1 (Nat.le_refl _) (by simp)).grown gu2 gu1.size (fun b e => by injection e with e; rw [← e]; exact Nat.le_refl _)
          have B2 := B.below bu2
          have HT := Lib.hid (And.intro B2 sS)
          clear hbig hrg qu1 gu1 zu1 gu2 zu2 qu2 bu2 B hbl c0 c4
          go_roundw
          case rel => exact ⟨q + 1, s, by omega, rfl, by go_num, _, _, _, _, _, _, _, _, HT.out.1, HT.out.2, by omega, by omega, by omega⟩
          case measure => simp [intOf]; omega
        · have hbI : ¬ (300 : Int) < (nb : Int) := by omega
          go_wp2_with (first
            | (refine Held.wpList_run (w := wr) rfl (v := .pointer (some ⟨b, off + q * 5, none⟩)) (Held.y_addr (S := fun _ => True) rfl rfl rfl (Rs.run_addr_of (P := Try.prog) 22 33 b off n c q 5 .i64 Try.underlying22 (by kernel_rfl) hlt) _ trivial) ?_)
            | (refine Held.wpList_run (w := wr) rfl (v := .agg #[.int .i64 kd, .int .i64 nn, encStr nm, encStr to, .slice Ab nb cb]) (Rs.y_load_range (S := fun W => W = wr) (cs := [.int .i64 kd, .int .i64 nn, encStr nm, encStr to, .slice Ab nb cb]) rfl rfl Try.underlying33 rfl (by kernel_rfl) rfl (fun W hW => hW ▸ hrg) _ rfl) ?_)
            | (refine wpList_alloc_blk (w := wr) rfl 33 rfl #[.int .i64 0, .int .i64 0, encStr [], encStr [], .slice none 0 0] (by kernel_rfl) ?_; intro u1 qu1 gu1 zu1)
            | (refine wpList_store_blk (w := u1) rfl 33 _ _ rfl wr.heap.size 5 rfl 33 _ #[.int .i64 kd, .int .i64 nn, encStr nm, encStr to, .slice Ab nb cb] rfl qu1 (by kernel_rfl) rfl rfl (by kernel_rfl) ?_; intro u2 qu2 gu2 zu2; have c0 := qu2.cell (i := 0) rfl; have c4 := qu2.cell (i := 4) rfl))
          have bu2 : Below wr.heap.size wr u2 := ((Below.refl _ _).grown gu1 (Nat.le_refl _) (by simp)).grown gu2 gu1.size (fun b e => by injection e with e; rw [← e]; exact Nat.le_refl _)
          have B2 := B.below bu2
          have HOB := Lib.hid (show ow wr.heap.size = 0 ∧ ow2 wr.heap.size = 0 from ⟨B.si.sto.free (Nat.le_refl _), B.ref.free (Nat.le_refl _)⟩)
          obtain ⟨ob, hob⟩ : ∃ ob, wr.heap.size = ob := ⟨_, rfl⟩
          rw [hob] at HOB qu2 c0 c4
          rw [hob]
          have q2 := qu2
          have gS := B2.si.good
          clear hrg qu1 gu1 zu1 gu2 zu2 qu2 bu2 B hob hbl c0 c4
          have hzb := HZB.out
          have a1 := Help.own_any u2.heap.size Ab nb cb zs 71 u2 ((hzb.below B2.bel).more B2.bel.size) (Nat.le_refl _) (by omega) rfl
          refine a1.mono ?_
          rintro e3 w3 ⟨gi, rfl, hgi, ri, b3⟩
          have B3 := B2.below b3
          have q3 := q2.below b3 q2.lt
          have c32 := q3.cell (i := 2) rfl
          have hgz : ow gi = 0 ∧ ow2 gi = 0 := ⟨B2.si.sto.free hgi, B2.ref.free hgi⟩
          have hzl : zs.length = nb := hzb.1
          have hrd : Rd (fun b => ow b ≤ 1) w3 (⟨some ⟨gi, 0, none⟩, nb, nb + 3, zs⟩ : Bs) := ⟨by have h9 := ri.ints (n := nb) (by simp; omega); rw [List.take_left' hzl] at h9; exact h9, by show nb ≤ _; omega, fun b off p e _ => by injection e with e; injection e with e; rw [← e, hgz.1]; omega⟩
          have a2 := put_si B3.si (k := nm) HNT.out.1 hrd (by omega)
          clear a1 hrd
          go_wp2_with fail
          refine a2.mono ?_
          rintro e4 w4 ⟨rfl, ow4, es4, H4, C4, L4⟩
          have B4 := B3.real H4 C4
          have q4 : Blk w4 ob 33 #[.int .i64 kd, .int .i64 nn, encStr nm, encStr to, .slice Ab nb cb] := C4.keep.block ob _ (by show ow ob ≤ 1; rw [HOB.out.1]; omega) q3
          have r4 : Row w4 gi 5 .u8 (zs ++ [71, 71, 71]) := ⟨ri.1, C4.keep.block gi _ (by show ow gi ≤ 1; rw [hgz.1]; omega) ri.2⟩
          have c42 := q4.cell (i := 2) rfl
          have c44 := q4.cell (i := 4) rfl
          have hz4 : Rd (fun b => b < w.heap.size) w4 (⟨Ab, nb, cb, zs⟩ : Bs) := B4.rd hzb (by omega)
          have a3 := rput_say (x := nm) B4.ref sS gS (by omega) (z := ⟨Ab, nb, cb, zs⟩) hz4 (fun b hb h9 => by have := B4.rnew b (by omega); omega)
          clear a2 c32 hz4
          go_wp2_with fail
          refine a3.mono ?_
          rintro e5 w5 ⟨rfl, ow5, l5, O5, H5, C5, S5, hO5⟩
          have bB := B4.refd H5 C5
          have q5 : Blk w5 ob 33 #[.int .i64 kd, .int .i64 nn, encStr nm, encStr to, .slice Ab nb cb] := C5.keep.block ob _ (by show ow2 ob ≤ 1; rw [HOB.out.2]; omega) q4
          have r5 : Row w5 gi 5 .u8 (zs ++ [71, 71, 71]) := ⟨r4.1, C5.keep.block gi _ (by show ow2 gi ≤ 1; rw [hgz.2]; omega) r4.2⟩
          have c54 := q5.cell (i := 4) rfl
          have a4 := Help.kept_any w5.heap.size Ab nb cb gi zs 71 w5 ((hzb.below bB.bel).more bB.bel.size) (by omega) r5
          clear a3 c42 c44
          go_wp2_with fail
          refine a4.mono ?_
          rintro e6 w6 ⟨rfl, s6⟩
          have b6 := s6.below w5.heap.size
          have bB := bB.below b6
          have q6 := q5.below b6 q5.lt
          have r6 : Row w6 gi 5 .u8 (zs ++ [71, 71, 71]) := r5.below b6 r5.lt
          have o6 : Mem.Own w6 gi 5 .u8 (.slice (some ⟨gi, 0, none⟩) nb (nb + 3)) zs := by
            have h9 := r6.own (Nat.le_refl gi) (n := nb) (by simp; omega) (by simp [maxLen]; omega)
            have h8 : (zs ++ [71, 71, 71]).length = nb + 3 := by simp; omega
            rw [h8, List.take_left' hzl] at h9
            exact h9
          have a5 := Help.spoil_any gi (some ⟨gi, 0, none⟩) nb (nb + 3) zs w6 o6 hzl (by omega)
          clear a4 c54
          go_wp2_with fail
          refine a5.mono ?_
          rintro e7 w7 ⟨rfl, g7⟩
          have hgb : gi ≠ ob := fun e => by
            have h1 := r6.2
            have h2 : w6.heap[ob]? = some (.cells #[.int .i64 kd, .int .i64 nn, encStr nm, encStr to, .slice Ab nb cb] 33 (0, 0)) := q6
            rw [e, h2] at h1
            injection h1 with h1
            injection h1 with _ h1
            exact absurd h1 (by decide)
          have hg4 : ow4 gi = 0 := (C4.same gi ri.lt).trans hgz.1
          have hg5 : ow5 gi = 0 := (C5.same gi r4.lt).trans hgz.2
          have bB := bB.grown g7 (fun b e => by have e : some gi = some b := e; injection e with e; rw [← e]; exact ⟨hg4, hg5, by have := B2.bel.size; omega⟩)
          have qB : Blk w7 ob 33 #[.int .i64 kd, .int .i64 nn, encStr nm, encStr to, .slice Ab nb cb] := q6.grown g7 (fun e => by have e : some ob = some gi := e; injection e with e; exact hgb e.symm)
          rw [← L4] at S5
          have sB := S5
          have lB : O5.length ≤ q + 1 := by omega
          have nB : N + 3 ≤ 4 * (q + 1) := by omega
          have mB : M + 2 ≤ 4 * (q + 1) := by omega
          clear a5 S5 B4 H4 C4 L4 H5 C5 r4 r5 r6 o6 q3 q4 q5 q6 B3 ri b3 s6 b6 g7 hg4 hg5 hgb hzb hzl hgz hbig sS gS hO5 B2 q2
          have HT := Lib.hid (And.intro bB (And.intro sB (And.intro lB (And.intro nB mB))))
          have hobl := qB.lt
          have a1 := shows_ok (k := nm) bB.si bB.ref sB.doc (by have := sB.few; omega) HNT.out.1 (by omega) (by omega)
          have c2 := qB.cell (i := 2) rfl
          clear bB sB lB nB mB
          go_wp2_with fail
          refine a1.mono ?_
          rintro e8 x1 ⟨rfl, d1⟩
          have q1 := qB.below d1 hobl
          have c3 := q1.cell (i := 3) rfl
          have a2 := shows_ok (k := to) (HT.out.1.below d1).si (HT.out.1.below d1).ref HT.out.2.1.doc (by have := HT.out.2.1.few; have := HT.out.2.2.1; omega) HNT.out.2 (by have := HT.out.2.2.2.1; omega) (by have := HT.out.2.2.2.2; omega)
          clear a1 c2
          go_wp2_with fail
          refine a2.mono ?_
          rintro e9 x2 ⟨rfl, d2⟩
          have d12 := d1.trans (d2.mono d1.size)
          clear a2 c3 q1
          go_wp2_with (refine Held.wpList_run (w := x2) rfl (v := .int .i64 ((q + 1 : Nat) : Int)) (y_addI (S := fun _ => True) (q : Int) 1 rfl rfl rfl HQ1.out _ trivial) ?_)
          go_roundw
          case rel => exact ⟨q + 1, s, by omega, rfl, rfl, _, _, _, _, _, _, _, _, HT.out.1.below d12, HT.out.2.1, HT.out.2.2.1, by have := HT.out.2.2.2.1; omega, by have := HT.out.2.2.2.2; omega⟩
          case measure => simp [intOf]; omega
      · have hb60 := B.bel
        have h60I : ¬ (q : Int) < 60 := by omega
        go_wp2_with fail
        go_ret
        exact ⟨rfl, hb60⟩
    · obtain rfl : q = n := by omega
      have hb60 := B.bel
      go_wp2_with fail
      go_ret
      exact ⟨rfl, hb60⟩
theorem walk (A0 : Option Addr) (m0 c0 : Nat) (ps0 : List Sto.Opr) (w : World) (hp0 : Sl.Lst (Sto.kOp w) w w.heap.size A0 m0 ps0 ∧ m0 ≤ c0 ∧ c0 ≤ maxLen) :
    Calls Try.prog 3 #[.slice A0 m0 c0] w fun e w' => e = .returned (.bool true) ∧ Below w.heap.size w w' := by
  exact start A0 m0 c0 ps0 w hp0.1 (Nat.le_trans hp0.2.1 hp0.2.2)
set_option maxRecDepth 100000 in
theorem lifted (os : Os) (started : os.Started) (H : Type) (enc : TypeId × Value → H) :
    ReturnsInHanded {} Try.checked os 3 .any (Rows.storePlaysSpec.pre6 enc Try.prog Try.f3 Rows.storePlaysRow.domain false) (Rows.storePlaysSpec.post enc Try.prog Try.f3 false true false false) := by
  refine returnsInHanded_of_change (C := Try.checked) own started (by kernel_rfl) Try.func3
    (ChangeSpec.witness6 (enc := enc) (C := Try.checked) false ⟨#[], #[.slice none 0 0], []⟩ 8 (by kernel_rfl) (by kernel_rfl) (by kernel_rfl) (by kernel_rfl)) ?_
  intro W base args ds gs before hval0 hW hcnd _
  have hval : ∀ (j : Nat) t v, Try.f3.params[j]? = some t → args[j]? = some v → Value.okWide Try.prog W .any base t v := hval0
  have hW' := hW
  obtain ⟨p, q, hA0, hV, rfl, hfz, hnd⟩ := hW
  have hA : DataW.TrodAll enc Try.prog W 0 (fun _ => true) true Try.f3.params.toList args.toList ds p := hA0
  rw [Try.params3] at hA hval
  obtain ⟨v0, vs0, d0, ds0, p0, q0, hargs, rfl, rfl, h0, r0⟩ := trodAll_cons hA
  obtain ⟨rfl, rfl, rfl⟩ := trodAll_nil r0
  obtain rfl : args = #[v0] := by cases args; simp_all
  obtain ⟨rfl, rfl⟩ := trodVars_none hV
  obtain ⟨A0, m0, c0, rfl⟩ := okWide_slice Try.underlying22 (hval 0 22 v0 rfl rfl)
  have kk0 := h0
  have lt0 : ∀ x ∈ p0, x.block < W.heap.size := by obtain ⟨m, hm⟩ := kk0; exact DataW.trod_lt m _ _ _ hm
  obtain ⟨ps0, hp0⟩ := Sto.open_opsT (k := Sto.kOp W) Try.underlying22 (by kernel_rfl) Sto.open_opr h0
  clear hA0 hval0
  refine (walk A0 m0 c0 ps0 W hp0).mono fun e W' ⟨he, bel⟩ => ?_
  subst he
  exact ⟨_, rfl, _, _, _, [], _, [], hW', trodAll_mk1 (shut_bool Try.underlying4 _), (trodAll_cons_mk (Below.trod laidOut (by kernel_rfl) (of_decide_eq_true (by kernel_rfl)) kk0 bel lt0) trodAll_mk0), rfl, bel.frame _, fun h => by cases h⟩
theorem over : Rows.storePlaysRow.holds Try.pinned (OpenSpec.ofChange Rows.storePlaysSpec) :=
  OpenClaim.holds_of_wide 3 Try.f3 rfl rfl rfl rfl rfl rfl rfl ⟨rfl, rfl, rfl, rfl, rfl⟩ rfl rfl rfl rfl rfl (by kernel_rfl) Try.func3 (by kernel_rfl)
    (of_decide_eq_true (by kernel_rfl)) (by unfold Func.isWrapper; first | (rw [if_pos (by decide +kernel)]; kernel_rfl) | (rw [if_neg (by decide +kernel)]; exact ⟨rfl, rfl⟩))
    (fun os started H enc _ => lifted os started H enc)
theorem proved : Rows.StorePlaysSaid :=
  over
#print axioms proved
end Go.Proofs.Ytbippmbcgkicaaa.storePlays
