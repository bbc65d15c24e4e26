/-
  The law RecordPacks of package dominolaw09 returns true for every record and every bytes: what a record is packed as, and what bytes are taken as, is the document's own answer; what is handed in, and the room behind it, stays.
-/
import Derived.Test.YtdfnacnklmmjhaaRows
import Derived.WalkKit
import Derived.ProofKit
import Derived.OpenShut
import Derived.ShutString
import Derived.ChangeOld
import Derived.Below
import Derived.Test.YtdfnacnklmmjhaaRr9
import Derived.Test.YtdfnacnklmmjhaaRcP
import Derived.Test.YtdfnacnklmmjhaaArrP
import Derived.Test.YtdfnacnklmmjhaaKept
namespace Go.Proofs.Ytdfnacnklmmjhaa.recordPacks
open Go.ChangeShapes Go.WideShapes Go.ChangeAt Go.RowKit
open Go.ChangeMaps (open_string shut_string)
open Go.Shelf Go.Proofs.Ytdfnacnklmmjhaa.Mem Go.Proofs.Ytdfnacnklmmjhaa.Help Go.Proofs.Ytdfnacnklmmjhaa.Sum Go.Proofs.Ytdfnacnklmmjhaa.Po Go.Proofs.Ytdfnacnklmmjhaa.Ky Go.Proofs.Ytdfnacnklmmjhaa.Ct Go.Proofs.Ytdfnacnklmmjhaa.Bit Go.Proofs.Ytdfnacnklmmjhaa.Held Go.Proofs.Ytdfnacnklmmjhaa.Rc Go.Proofs.Ytdfnacnklmmjhaa
set_option linter.unusedVariables false

theorem own : ownKnob Try.prog.godebug = none := by kernel_rfl
theorem laidOut : laidOutB Try.prog = true := by kernel_rfl

/-- what a slice that came in leads to -/
def IsRow (k : IntKind) (w : World) (a : Option Addr) (len cap : Nat) (zs : List Int) : Prop :=
  (a = none ∧ len = 0 ∧ cap = 0 ∧ zs = []) ∨
  ∃ x, a = some x ∧ len ≤ cap ∧ cap ≤ maxLen ∧ zs.length = cap ∧ (∀ i, i < zs.length → w.cell? (x.add i) = some (.int k (zs.getD i 0))) ∧ ∀ n ∈ zs, (Lit.int k n).wf = true

attribute [local irreducible] wpList Calls

theorem taken_form {zs : List Int} (h : Bs zs) : ∃ (xd : Bool) (xk xv xs : Int), takenC zs = #[.bool xd, .int .i64 xk, .int .i64 xv, .int .i64 xs] ∧ (Lit.int .i64 xk).wf = true ∧ (Lit.int .i64 xv).wf = true ∧ (Lit.int .i64 xs).wf = true := by
  unfold takenC
  split
  · exact ⟨_, _, _, _, rfl, wrap64_wf _, wrap64_wf _, wrap64_wf _⟩
  · exact ⟨_, _, _, _, rfl, rfl, rfl, rfl⟩

theorem kept_b (B : Nat) (A : Option Addr) (n c g : Nat) (zs : List Int) (w : World) (h : Ints w .u8 B A n zs) (hn : n ≤ 1099511627776) (hr : Row w g 5 .u8 (zs ++ [71, 71, 71])) :
    Calls Try.prog 14 #[.slice (some ⟨g, 0, none⟩) n (n + 3), .slice A n c, .int .u8 71] w fun e w' => e = .returned (.bool true) ∧ Below w.heap.size w w' :=
  (kept_any B A n c g zs 71 w h hn hr).mono fun _ _ ⟨h1, h2⟩ => ⟨h1, h2.below _⟩
set_option maxRecDepth 100000 in
set_option maxHeartbeats 16000000 in
theorem start (da : Bool) (ka va sa : Int) (A : Option Addr) (n c : Nat) (zs : List Int) (u : World) (hka : (Lit.int .i64 ka).wf = true) (hva : (Lit.int .i64 va).wf = true) (hsa : (Lit.int .i64 sa).wf = true) (hz : Ints u .u8 u.heap.size A n zs) (hn : n ≤ c) :
    Calls Try.prog 3 #[.agg #[.bool da, .int .i64 ka, .int .i64 va, .int .i64 sa], .slice A n c] u fun e u' => e = .returned (.bool true) ∧ Below u.heap.size u u' := by
  by_cases hbig : 300 < n
  · have hbi : (300 : Int) < (n : Int) := by omega
    go_enter Try.func3, Try.ntmps3
    go_wp2_with (refine wpList_box_blk (w := u) rfl 23 _ rfl #[.bool da, .int .i64 ka, .int .i64 va, .int .i64 sa] rfl ?_; intro u1 ua g1 z1)
    have b1 : Below u.heap.size u u1 := (Below.refl _ u).grown g1 (Nat.le_refl _) (by simp)
    clear g1 z1
    refine (awake9_any u1).mono ?_
    rintro e u2 ⟨rfl, b2⟩
    have b2 := b1.trans (b2.mono b1.size)
    go_wp2_with fail
    go_ret
    exact ⟨rfl, b2⟩
  · have hbi : ¬ (300 : Int) < (n : Int) := by omega
    have HZL := Lib.hid hz.1
    have hzb := bs_of hz.2.1
    obtain ⟨xd, xk, xv, xs, hT, hxk, hxv, hxs⟩ := taken_form hzb
    have HT := Lib.hid hT
    obtain ⟨TE, hTE⟩ : ∃ x, takenE zs = x := ⟨_, rfl⟩
    have HTE := Lib.hid hTE
    clear hT hTE
    go_enter Try.func3, Try.ntmps3
    go_wp2_with (refine wpList_box_blk (w := u) rfl 23 _ rfl #[.bool da, .int .i64 ka, .int .i64 va, .int .i64 sa] rfl ?_; intro u1 ua g1 z1)
    have b1 : Below u.heap.size u u1 := (Below.refl _ u).grown g1 (Nat.le_refl _) (by simp)
    clear g1 z1
    refine (own_any u1.heap.size A n c zs 71 u1 ((hz.below b1).more b1.size) (Nat.le_refl _) (by omega) rfl).mono ?_
    rintro e u2 ⟨g, rfl, hg, rg, b2⟩
    have ua := ua.after b2
    have b2 := b1.trans (b2.mono b1.size)
    clear b1 hg
    have ig := rg.ints (n := n) (by rw [List.length_append, HZL.out]; omega)
    rw [List.take_left' HZL.out] at ig
    go_wp2_with fail
    refine (take_any u2.heap.size (some ⟨g, 0, none⟩) n (n + 3) zs u2 ig (Nat.le_refl _) (by omega) (by omega)).mono ?_
    rintro e u3 ⟨rfl, b3⟩
    rw [HT.out, HTE.out]
    have ua := ua.after b3
    have rg := rg.below b3 rg.lt
    have b3 := b2.trans (b3.mono b2.size)
    clear b2 ig
    go_wp2_with (first
      | (refine wpList_alloc_blk (w := u3) rfl 23 rfl _ zero_rec ?_; intro u4 q4 g4 z4)
      | (refine wpList_store_blk (w := u4) rfl 23 _ _ rfl u3.heap.size 4 rfl 23 _ #[.bool xd, .int .i64 xk, .int .i64 xv, .int .i64 xs] rfl q4 info_rec rfl rfl (by kernel_rfl) ?_; intro u5 q5 g5 z5))
    have l3 := ua.lt
    have lg := rg.lt
    have ua := (ua.grown g4 (by simp)).grown g5 (by intro e; injection e with e; omega)
    have rg := (rg.grown g4 (by simp)).grown g5 (by intro e; injection e with e; omega)
    have b5 := (b3.grown g4 b3.size (by simp)).grown g5 (Nat.le_trans b3.size g4.size) (fun r e => by cases e; exact b3.size)
    clear q4 g4 g5 z4 z5 l3 lg b3
    refine (rtake_any u5.heap.size A n c zs u5 ((hz.below b5).more b5.size) (Nat.le_refl _) hn (by omega)).mono ?_
    rintro e u6 ⟨rfl, b6⟩
    rw [HT.out, HTE.out]
    have ua := ua.after b6
    have q4 := q5.after b6
    have rg := rg.below b6 rg.lt
    have b6 := b5.trans (b6.mono b5.size)
    clear b5 q5
    go_wp2_with (first
      | (refine wpList_alloc_blk (w := u6) rfl 23 rfl _ zero_rec ?_; intro u7 q7 g7 z7)
      | (refine wpList_store_blk (w := u7) rfl 23 _ _ rfl u6.heap.size 4 rfl 23 _ #[.bool xd, .int .i64 xk, .int .i64 xv, .int .i64 xs] rfl q7 info_rec rfl rfl (by kernel_rfl) ?_; intro u8 q8 g8 z8))
    have l3 := ua.lt
    have lg := rg.lt
    have l4 := q4.lt
    have ua := (ua.grown g7 (by simp)).grown g8 (by intro e; injection e with e; omega)
    have rg8 := (rg.grown g7 (by simp)).grown g8 (by intro e; injection e with e; omega)
    have q4 := (q4.grown g7 (by simp)).grown g8 (by intro e; injection e with e; omega)
    have b8 := (b6.grown g7 b6.size (by simp)).grown g8 (Nat.le_trans b6.size g7.size) (fun r e => by cases e; exact b6.size)
    have hz8 := (hz.below b8).more b8.size
    have la := ua.lt
    have l4 := q4.lt
    have l8 := q8.lt
    clear q7 g7 g8 z7 z8 l3 lg b6 rg
    refine wp_region_held (S := fun W => Below u8.heap.size u8 W) (by kernel_rfl) ?_
    change wpAnyH _ _ _ _ _ _ _ _ u8.drew
    have c0_0 := (Below.refl u8.heap.size u8).drew
    refine Held.one 0 (by kernel_rfl) ?_
    refine Held.op_call 0 (some 26) 8 #[] rfl rfl rfl rfl (enters_of Try.func8 (by kernel_rfl) rfl) (by simp)
      (awake9_any _) ?_
    rintro e w1 ⟨rfl, b1⟩
    have c0_1 := c0_0.trans (b1.mono c0_0.size)
    refine ⟨_, rfl, c0_1, ?_⟩
    simp only [Act.put, List.setIfInBounds_toArray, List.set_cons_zero, List.set_cons_succ]
    refine Held.take (v := .bool true) 1 (some 27) rfl rfl (by kernel_rfl) (by kernel_rfl) (by kernel_rfl) (fun _ _ _ h => h) rfl (Held.y_move rfl rfl) c0_1 ?_
    simp only [Act.put, List.setIfInBounds_toArray, List.set_cons_zero, List.set_cons_succ]
    refine Held.take (v := .agg #[.bool da, .int .i64 ka, .int .i64 va, .int .i64 sa]) 2 (some 28) rfl rfl (by kernel_rfl) (by kernel_rfl) (by kernel_rfl) (fun _ _ _ h => h) rfl (Held.y_load_blk (n := 4) rfl rfl Try.underlying23 rfl (by kernel_rfl) rfl (fun W hW => ua.below hW la)) c0_1 ?_
    simp only [Act.put, List.setIfInBounds_toArray, List.set_cons_zero, List.set_cons_succ]
    refine Held.take (v := .agg #[.bool da, .int .i64 ka, .int .i64 va, .int .i64 sa]) 4 (some 30) rfl rfl (by kernel_rfl) (by kernel_rfl) (by kernel_rfl) (fun _ _ _ h => h) rfl (Held.y_load_blk (n := 4) rfl rfl Try.underlying23 rfl (by kernel_rfl) rfl (fun W hW => ua.below hW la)) c0_1 ?_
    simp only [Act.put, List.setIfInBounds_toArray, List.set_cons_zero, List.set_cons_succ]
    refine Held.one 3 (by kernel_rfl) ?_
    refine Held.op_call 3 (some 29) 12 #[.agg #[.bool da, .int .i64 ka, .int .i64 va, .int .i64 sa]] rfl rfl rfl rfl (enters_of Try.func12 (by kernel_rfl) rfl) (by simp [Act.eval])
      (pack_any da ka va sa hka hva hsa _) ?_
    rintro e w2 ⟨rfl, b2⟩
    have c0_2 := c0_1.trans (b2.mono c0_1.size)
    refine ⟨_, rfl, c0_2, ?_⟩
    simp only [Act.put, List.setIfInBounds_toArray, List.set_cons_zero, List.set_cons_succ]
    refine Held.one 5 (by kernel_rfl) ?_
    refine Held.op_call 5 (some 31) 13 #[.agg #[.bool da, .int .i64 ka, .int .i64 va, .int .i64 sa]] rfl rfl rfl rfl (enters_of Try.func13 (by kernel_rfl) rfl) (by simp [Act.eval])
      (rpack_any da ka va sa  _) ?_
    rintro e w3 ⟨rfl, b3⟩
    have c0_3 := c0_2.trans (b3.mono c0_2.size)
    refine ⟨_, rfl, c0_3, ?_⟩
    simp only [Act.put, List.setIfInBounds_toArray, List.set_cons_zero, List.set_cons_succ]
    refine Held.take (v := .bool true) 6 (some 32) rfl rfl (by kernel_rfl) (by kernel_rfl) (by kernel_rfl) (fun _ _ _ h => h) rfl (y_eqa rfl rfl rfl (by simp) (by kernel_rfl) Try.underlying30 Try.underlying5 (by kernel_rfl) (packed_length _ _ _ _) (packed_length _ _ _ _)) c0_3 ?_
    simp only [Act.put, List.setIfInBounds_toArray, List.set_cons_zero, List.set_cons_succ]
    refine Held.take (v := .bool true) 7 (some 33) rfl rfl (by kernel_rfl) (by kernel_rfl) (by kernel_rfl) (fun _ _ _ h => h) rfl (Held.y_pick rfl rfl rfl) c0_3 ?_
    simp only [Act.put, List.setIfInBounds_toArray, List.set_cons_zero, List.set_cons_succ]
    refine Held.take (v := .bool true) 8 (some 34) rfl rfl (by kernel_rfl) (by kernel_rfl) (by kernel_rfl) (fun _ _ _ h => h) rfl (Held.y_move rfl rfl) c0_3 ?_
    simp only [Act.put, List.setIfInBounds_toArray, List.set_cons_zero, List.set_cons_succ]
    refine Held.take (v := .agg #[.bool xd, .int .i64 xk, .int .i64 xv, .int .i64 xs]) 9 (some 35) rfl rfl (by kernel_rfl) (by kernel_rfl) (by kernel_rfl) (fun _ _ _ h => h) rfl (Held.y_load_blk (n := 4) rfl rfl Try.underlying23 rfl (by kernel_rfl) rfl (fun W hW => q4.below hW l4)) c0_3 ?_
    simp only [Act.put, List.setIfInBounds_toArray, List.set_cons_zero, List.set_cons_succ]
    refine Held.take (v := .agg #[.bool xd, .int .i64 xk, .int .i64 xv, .int .i64 xs]) 10 (some 36) rfl rfl (by kernel_rfl) (by kernel_rfl) (by kernel_rfl) (fun _ _ _ h => h) rfl (Held.y_load_blk (n := 4) rfl rfl Try.underlying23 rfl (by kernel_rfl) rfl (fun W hW => q8.below hW l8)) c0_3 ?_
    simp only [Act.put, List.setIfInBounds_toArray, List.set_cons_zero, List.set_cons_succ]
    refine Held.take (v := .bool true) 11 (some 37) rfl rfl (by kernel_rfl) (by kernel_rfl) (by kernel_rfl) (fun _ _ _ h => h) rfl (y_eqr rfl rfl rfl (by simp)) c0_3 ?_
    simp only [Act.put, List.setIfInBounds_toArray, List.set_cons_zero, List.set_cons_succ]
    refine Held.take (v := .bool true) 12 (some 38) rfl rfl (by kernel_rfl) (by kernel_rfl) (by kernel_rfl) (fun _ _ _ h => h) rfl (Held.y_pick rfl rfl rfl) c0_3 ?_
    simp only [Act.put, List.setIfInBounds_toArray, List.set_cons_zero, List.set_cons_succ]
    refine Held.take (v := .bool true) 13 (some 39) rfl rfl (by kernel_rfl) (by kernel_rfl) (by kernel_rfl) (fun _ _ _ h => h) rfl (Held.y_move rfl rfl) c0_3 ?_
    simp only [Act.put, List.setIfInBounds_toArray, List.set_cons_zero, List.set_cons_succ]
    refine Held.take (v := .int .i64 TE) 14 (some 40) rfl rfl (by kernel_rfl) (by kernel_rfl) (by kernel_rfl) (fun _ _ _ h => h) rfl (Held.y_move rfl rfl) c0_3 ?_
    simp only [Act.put, List.setIfInBounds_toArray, List.set_cons_zero, List.set_cons_succ]
    refine Held.take (v := .int .i64 TE) 15 (some 41) rfl rfl (by kernel_rfl) (by kernel_rfl) (by kernel_rfl) (fun _ _ _ h => h) rfl (Held.y_move rfl rfl) c0_3 ?_
    simp only [Act.put, List.setIfInBounds_toArray, List.set_cons_zero, List.set_cons_succ]
    refine Held.take (v := .bool true) 16 (some 42) rfl rfl (by kernel_rfl) (by kernel_rfl) (by kernel_rfl) (fun _ _ _ h => h) rfl (Held.y_eqI rfl rfl rfl (by simp)) c0_3 ?_
    simp only [Act.put, List.setIfInBounds_toArray, List.set_cons_zero, List.set_cons_succ]
    refine Held.take (v := .bool true) 17 (some 43) rfl rfl (by kernel_rfl) (by kernel_rfl) (by kernel_rfl) (fun _ _ _ h => h) rfl (Held.y_pick rfl rfl rfl) c0_3 ?_
    simp only [Act.put, List.setIfInBounds_toArray, List.set_cons_zero, List.set_cons_succ]
    refine Held.take (v := .bool true) 18 (some 44) rfl rfl (by kernel_rfl) (by kernel_rfl) (by kernel_rfl) (fun _ _ _ h => h) rfl (Held.y_move rfl rfl) c0_3 ?_
    simp only [Act.put, List.setIfInBounds_toArray, List.set_cons_zero, List.set_cons_succ]
    refine Held.take (v := .slice (some ⟨g, 0, none⟩) n (n + 3)) 19 (some 45) rfl rfl (by kernel_rfl) (by kernel_rfl) (by kernel_rfl) (fun _ _ _ h => h) rfl (Held.y_move rfl rfl) c0_3 ?_
    simp only [Act.put, List.setIfInBounds_toArray, List.set_cons_zero, List.set_cons_succ]
    refine Held.take (v := .slice A n c) 20 (some 46) rfl rfl (by kernel_rfl) (by kernel_rfl) (by kernel_rfl) (fun _ _ _ h => h) rfl (Held.y_move rfl rfl) c0_3 ?_
    simp only [Act.put, List.setIfInBounds_toArray, List.set_cons_zero, List.set_cons_succ]
    refine Held.one 21 (by kernel_rfl) ?_
    refine Held.op_call 21 (some 47) 14 #[.slice (some ⟨g, 0, none⟩) n (n + 3), .slice A n c, .int .u8 71] rfl rfl rfl rfl (enters_of Try.func14 (by kernel_rfl) rfl) (by simp [Act.eval])
      (kept_b u8.heap.size A n c g zs _ (hz8.below c0_3) (by omega) (rg8.below c0_3 rg8.lt)) ?_
    rintro e w4 ⟨rfl, b4⟩
    have c0_4 := c0_3.trans (b4.mono c0_3.size)
    refine ⟨_, rfl, c0_4, ?_⟩
    simp only [Act.put, List.setIfInBounds_toArray, List.set_cons_zero, List.set_cons_succ]
    refine Held.take (v := .bool true) 22 (some 48) rfl rfl (by kernel_rfl) (by kernel_rfl) (by kernel_rfl) (fun _ _ _ h => h) rfl (Held.y_pick rfl rfl rfl) c0_4 ?_
    simp only [Act.put, List.setIfInBounds_toArray, List.set_cons_zero, List.set_cons_succ]
    refine Held.take (v := .bool true) 23 (some 4) rfl rfl (by kernel_rfl) (by kernel_rfl) (by kernel_rfl) (fun _ _ _ h => h) rfl (Held.y_assign rfl rfl) c0_4 ?_
    simp only [Act.put, List.setIfInBounds_toArray, List.set_cons_zero, List.set_cons_succ]
    refine wpAnyH_done (by kernel_rfl) ?_ _
    have dz := b8.trans (c0_4.mono b8.size)
    go_wp2_with fail
    go_ret
    exact ⟨rfl, dz⟩

theorem walk (rd0 : Bool) (rk0 rv0 rs0 : Int) (a1 : Option Addr) (len1 cap1 : Nat) (z1 : List Int) (w : World) (wk0 : (Lit.int .i64 rk0).wf = true) (wv0 : (Lit.int .i64 rv0).wf = true) (ws0 : (Lit.int .i64 rs0).wf = true) (w1 : IsRow .u8 w a1 len1 cap1 z1) :
    Calls Try.prog 3 #[.agg #[.bool rd0, .int .i64 rk0, .int .i64 rv0, .int .i64 rs0], .slice a1 len1 cap1] w fun e w' => e = .returned (.bool true) ∧ Below w.heap.size w w' := by
  obtain ⟨hz, hn, _⟩ := Mem.ints_of_row w1
  exact start rd0 rk0 rv0 rs0 a1 len1 cap1 _ w wk0 wv0 ws0 hz hn

set_option maxRecDepth 100000 in
theorem lifted (os : Os) (started : os.Started) (H : Type) (enc : TypeId × Value → H) :
    ReturnsInHanded {} Try.checked os 3 .any (Rows.recordPacksSpec.pre6 enc Try.prog Try.f3 Rows.recordPacksRow.domain false) (Rows.recordPacksSpec.post enc Try.prog Try.f3 false true false false) := by
  refine returnsInHanded_of_change (C := Try.checked) own started (by kernel_rfl) Try.func3
    (ChangeSpec.witness6 (enc := enc) (C := Try.checked) false ⟨#[], #[.agg #[.bool false, .int .i64 0, .int .i64 0, .int .i64 0], .slice none 0 0], []⟩ 8 (by kernel_rfl) (by kernel_rfl) (by kernel_rfl) (by kernel_rfl)) ?_
  intro W base args ds gs before hval0 hW hcnd _
  have hval : ∀ (j : Nat) t v, Try.f3.params[j]? = some t → args[j]? = some v → Value.okWide Try.prog W .any base t v := hval0
  have hW' := hW
  obtain ⟨p, q, hA0, hV, rfl, hfz, hnd⟩ := hW
  have hA : DataW.TrodAll enc Try.prog W 0 (fun _ => true) true Try.f3.params.toList args.toList ds p := hA0
  rw [Try.params3] at hA hval
  obtain ⟨v0, vs0, d0, ds0, p0, q0, hargs, rfl, rfl, h0, r0⟩ := trodAll_cons hA
  obtain ⟨v1, vs1, d1, ds1, p1, q1, rfl, rfl, rfl, h1, r1⟩ := trodAll_cons r0
  obtain ⟨rfl, rfl, rfl⟩ := trodAll_nil r1
  obtain rfl : args = #[v0, v1] := by cases args; simp_all
  obtain ⟨rfl, rfl⟩ := trodVars_none hV
  have kk0 := h0
  have lt0 : ∀ x ∈ p0, x.block < W.heap.size := by obtain ⟨m, hm⟩ := kk0; exact DataW.trod_lt m _ _ _ hm
  obtain ⟨rd0, rk0, rv0, rs0, rfl, wk0, wv0, ws0⟩ := Rc.open_rec (hval 0 23 v0 rfl rfl) h0
  obtain ⟨a1, len1, cap1, rfl⟩ := okWide_slice Try.underlying24 (hval 1 24 v1 rfl rfl)
  have k1 := h1
  have lt1 : ∀ x ∈ p1, x.block < W.heap.size := by obtain ⟨m, hm⟩ := k1; exact DataW.trod_lt m _ _ _ hm
  obtain ⟨z1, w1⟩ : ∃ zs, IsRow .u8 W a1 len1 cap1 zs := by
    obtain ⟨fuel, hf⟩ := h1
    rcases open_ints Try.underlying24 Try.underlying5 (by kernel_rfl) hf with ⟨hcs, _⟩ | ⟨x, l, c, zs, hcs, _, hl, hm, hz, _, hcell, hwz⟩
    · simp [Value.cells] at hcs
      obtain ⟨rfl, rfl, rfl⟩ := hcs
      exact ⟨[], .inl ⟨rfl, rfl, rfl, rfl⟩⟩
    · simp [Value.cells] at hcs
      obtain ⟨rfl, rfl, rfl⟩ := hcs
      exact ⟨zs, .inr ⟨_, rfl, hl, hm, by simpa using hz, hcell, hwz⟩⟩
  clear hA0 hval0
  refine (walk rd0 rk0 rv0 rs0 a1 len1 cap1 z1 W wk0 wv0 ws0 w1).mono fun e W' ⟨he, bel⟩ => ?_
  subst he
  exact ⟨_, rfl, _, _, _, [], _, [], hW', trodAll_mk1 (shut_bool Try.underlying4 _), (trodAll_cons_mk (Below.trod laidOut (by kernel_rfl) (of_decide_eq_true (by kernel_rfl)) kk0 bel lt0) (trodAll_cons_mk (Below.trod laidOut (by kernel_rfl) (of_decide_eq_true (by kernel_rfl)) k1 bel lt1) trodAll_mk0)), rfl, bel.frame _, fun h => by cases h⟩

theorem over : Rows.recordPacksRow.holds Try.pinned (OpenSpec.ofChange Rows.recordPacksSpec) :=
  OpenClaim.holds_of_wide 3 Try.f3 rfl rfl rfl rfl rfl rfl rfl ⟨rfl, rfl, rfl, rfl, rfl⟩ rfl rfl rfl rfl rfl (by kernel_rfl) Try.func3 (by kernel_rfl)
    (of_decide_eq_true (by kernel_rfl)) (by unfold Func.isWrapper; first | (rw [if_pos (by decide +kernel)]; kernel_rfl) | (rw [if_neg (by decide +kernel)]; exact ⟨rfl, rfl⟩))
    (fun os started H enc _ => lifted os started H enc)

/-- the statement -/
theorem proved : Rows.RecordPacksSaid :=
  over
#print axioms proved
end Go.Proofs.Ytdfnacnklmmjhaa.recordPacks
