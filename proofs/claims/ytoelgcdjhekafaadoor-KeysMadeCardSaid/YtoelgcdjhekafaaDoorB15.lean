/-
  The function Aad of package keys by its contract. No conditions beyond those stated.
  A number's eight bytes, numbers' bytes, a nonce and what goes beside, by the document's own, by their contracts. Conditions beyond those stated: none.
  A nonce by the document's own, by its contract. No conditions beyond those stated.
  []byte("..") of a text that the program's text says: no program here. No conditions beyond those stated.
-/
import Derived.Test.YtoelgcdjhekafaaDoorB14
import Derived.Test.YtoelgcdjhekafaaDoorB10
import Derived.Test.YtoelgcdjhekafaaDoorB1
import Derived.Lib.SlBytesConst
import Derived.Great.BuildSlice
import Derived.Laws.IdiomStrings
namespace Go.Proofs.YtoelgcdjhekafaaDoor.Ky
open Go.RowKit Go.Shelf Go.Proofs.YtoelgcdjhekafaaDoor.Mem Go.Proofs.YtoelgcdjhekafaaDoor.Help Go.Proofs.YtoelgcdjhekafaaDoor.Sum Go.Proofs.YtoelgcdjhekafaaDoor.Sha Go.Proofs.YtoelgcdjhekafaaDoor.Mac Go.Proofs.YtoelgcdjhekafaaDoor.Po Go.Proofs.YtoelgcdjhekafaaDoor.Range Go.Proofs.YtoelgcdjhekafaaDoor.Hkdf Go.Proofs.YtoelgcdjhekafaaDoor
set_option linter.unusedVariables false
attribute [local irreducible] wpList wpListIn Calls

/-- what goes beside a block -/
def kAad (ph r a t i n : Int) : List Int := eights [u64 ph, u64 r, u64 a] ++ eights [t, u64 i, u64 n]
theorem kAad_length (ph r a t i n : Int) : (kAad ph r a t i n).length = 48 := by rw [kAad, List.length_append, eights_length, eights_length]; rfl

set_option maxRecDepth 100000 in
set_option maxHeartbeats 8000000 in
theorem aad_any (ph r a t i n : Int) (ht : (Lit.int .u64 t).wf = true) (w : World) :
    Calls Tryd.prog 19 #[.agg #[.int .i64 ph, .int .i64 r, .int .i64 a, .int .u64 t, .int .i64 i], .int .i64 n] w fun e w' => ∃ A n' c, e = .returned (.slice A n' c) ∧ OwnM w' w.heap.size 5 .u8 (.slice A n' c) (kAad ph r a t i n) ∧ Below w.heap.size w w' := by
  have hwz : ∀ z ∈ [t, u64 i, u64 n], (Lit.int .u64 z).wf = true := fun z hz => by
    rcases List.mem_cons.1 hz with rfl | hz
    · exact ht
    rcases List.mem_cons.1 hz with rfl | hz
    · exact u64_wf _
    · rw [List.mem_singleton.1 hz]; exact u64_wf _
  go_enter Tryd.func19, Tryd.ntmps19
  go_wp2_with (refine wpList_box_place (w := w) rfl _ rfl #[.int .i64 ph, .int .i64 r, .int .i64 a, .int .u64 t, .int .i64 i] rfl rfl ?_; intro w1 q1 g1)
  have bw : Below w.heap.size w w1 := (Below.refl _ w).grown g1 (Nat.le_refl _) (by simp)
  obtain ⟨bp, hbe⟩ : ∃ b, w.heap.size = b := ⟨_, rfl⟩
  rw [hbe] at q1 ⊢
  have hbp : bp < w1.heap.size := (Array.getElem?_eq_some_iff.1 q1).1
  have q3 : w1.cell? ⟨bp, 3, none⟩ = some (.int .u64 t) := by rw [cell_of_row w1 bp 3 _ _ _ q1]; rfl
  have q4 : w1.cell? ⟨bp, 4, none⟩ = some (.int .i64 i) := by rw [cell_of_row w1 bp 4 _ _ _ q1]; rfl
  have HBE := Lib.hid hbe
  clear hbe g1
  refine wp_region_held (S := fun W => Below w1.heap.size w1 W) (by kernel_rfl) ?_
  change wpAnyH _ _ _ _ _ _ _ _ w1.drew
  have c0_0 := (Below.refl w1.heap.size w1).drew
  refine Held.take (v := .agg #[.int .i64 ph, .int .i64 r, .int .i64 a, .int .u64 t, .int .i64 i]) 0 (some 5) rfl rfl (by kernel_rfl) (by kernel_rfl) (by kernel_rfl) (fun _ _ _ h => h) rfl (y_load_place rfl rfl rfl (fun W hW => (hW.block bp hbp).trans q1)) c0_0 ?_
  simp only [Act.put, List.setIfInBounds_toArray, List.set_cons_zero, List.set_cons_succ]
  refine Held.take (v := .pointer (some ⟨bp, 3, none⟩)) 3 (some 8) rfl rfl (by kernel_rfl) (by kernel_rfl) (by kernel_rfl) (fun _ _ _ h => h) rfl (y_place (by omega) rfl rfl) c0_0 ?_
  simp only [Act.put, List.setIfInBounds_toArray, List.set_cons_zero, List.set_cons_succ]
  refine Held.take (v := .int .u64 t) 4 (some 9) rfl rfl (by kernel_rfl) (by kernel_rfl) (by kernel_rfl) (fun _ _ _ h => h) rfl (Held.y_load rfl rfl (by kernel_rfl) (fun W hW => (hW.cell (p := ⟨bp, 3, none⟩) hbp).trans q3)) c0_0 ?_
  simp only [Act.put, List.setIfInBounds_toArray, List.set_cons_zero, List.set_cons_succ]
  refine Held.take (v := .pointer (some ⟨bp, 4, none⟩)) 5 (some 10) rfl rfl (by kernel_rfl) (by kernel_rfl) (by kernel_rfl) (fun _ _ _ h => h) rfl (y_place (by omega) rfl rfl) c0_0 ?_
  simp only [Act.put, List.setIfInBounds_toArray, List.set_cons_zero, List.set_cons_succ]
  refine Held.take (v := .int .i64 i) 6 (some 11) rfl rfl (by kernel_rfl) (by kernel_rfl) (by kernel_rfl) (fun _ _ _ h => h) rfl (Held.y_load rfl rfl (by kernel_rfl) (fun W hW => (hW.cell (p := ⟨bp, 4, none⟩) hbp).trans q4)) c0_0 ?_
  simp only [Act.put, List.setIfInBounds_toArray, List.set_cons_zero, List.set_cons_succ]
  refine Held.take (v := .int .u64 (u64 i)) 7 (some 12) rfl rfl (by kernel_rfl) (by kernel_rfl) (by kernel_rfl) (fun _ _ _ h => h) rfl (Held.y_convert rfl rfl (by kernel_rfl) Tryd.underlying23 (u64_eq _)) c0_0 ?_
  simp only [Act.put, List.setIfInBounds_toArray, List.set_cons_zero, List.set_cons_succ]
  refine Held.take (v := .int .i64 n) 8 (some 13) rfl rfl (by kernel_rfl) (by kernel_rfl) (by kernel_rfl) (fun _ _ _ h => h) rfl (Held.y_move rfl rfl) c0_0 ?_
  simp only [Act.put, List.setIfInBounds_toArray, List.set_cons_zero, List.set_cons_succ]
  refine Held.take (v := .int .u64 (u64 n)) 9 (some 14) rfl rfl (by kernel_rfl) (by kernel_rfl) (by kernel_rfl) (fun _ _ _ h => h) rfl (Held.y_convert rfl rfl (by kernel_rfl) Tryd.underlying23 (u64_eq _)) c0_0 ?_
  simp only [Act.put, List.setIfInBounds_toArray, List.set_cons_zero, List.set_cons_succ]
  refine Held.two 1 10 (by kernel_rfl) ?_ ?_
  · refine Held.op_call 1 (some 6) 27 #[.agg #[.int .i64 ph, .int .i64 r, .int .i64 a, .int .u64 t, .int .i64 i]] rfl rfl rfl rfl (enters_of Tryd.func27 (by kernel_rfl) rfl) (by simp [Act.eval]) (spot_any ph r a t i w1.drew) ?_
    rintro e x1 ⟨bs, gs, rfl, cS, rS, hs1, hs2, b1⟩
    have c0_1 := c0_0.trans (b1.mono c0_0.size)
    clear hs1 hs2
    refine ⟨_, rfl, c0_1, ?_⟩
    simp only [Act.put, List.setIfInBounds_toArray, List.set_cons_zero, List.set_cons_succ]
    refine Held.two 2 10 (by kernel_rfl) ?_ ?_
    · refine Held.op_call 2 (some 7) 29 #[.slice none 0 0, .func (.func 37) #[] #[.pointer (some ⟨bs, 0, none⟩)]] rfl rfl rfl rfl (enters_of Tryd.func29 (by kernel_rfl) rfl) (by simp [Act.eval]) (laid_any x1.heap.size none 0 0 [] bs (some ⟨gs, 0, none⟩) 3 3 [u64 ph, u64 r, u64 a] x1 (OwnM.nil _ _ _ _) (Nat.le_refl _) (by simp) cS (by simp [Value.ownBlock]) (IntsN.row rS (fun e => by cases e)) (by omega)) ?_
      rintro e x2 ⟨A2, n2, c2, rfl, o2, b2⟩
      rw [List.nil_append] at o2
      have hL := o2.lt
      have c0_2 := c0_1.trans (b2.mono c0_1.size)
      clear hL cS rS
      refine ⟨_, rfl, c0_2, ?_⟩
      simp only [Act.put, List.setIfInBounds_toArray, List.set_cons_zero, List.set_cons_succ]
      refine Held.one 10 (by kernel_rfl) ?_
      refine Held.op_build_Row 10 (some 15) 60 23 3 .u64 8 [t, u64 i, u64 n] rfl rfl rfl rfl Tryd.underlying60 info_w64 (by simp [Act.eval]) rfl (by omega) (by omega) hwz ?_
      intro p x3 rR bb hp
      have b3 : Below x2.heap.size x2 x3 := ⟨bb.os, bb.tape, bb.output, bb.size, bb.block⟩
      have hap : ∀ b, (Value.slice A2 n2 c2).ownBlock = some b → b ≠ p := fun b e q => by have h1 := (o2.lt b e).2; have h2 : x2.heap.size ≤ p := hp.out; omega
      have c0_3 := c0_2.trans (b3.mono c0_2.size)
      have o2 := o2.below b3
      clear bb
      refine ⟨c0_3, ?_⟩
      simp only [Act.put, List.setIfInBounds_toArray, List.set_cons_zero, List.set_cons_succ]
      refine Held.one 11 (by kernel_rfl) ?_
      refine Held.op_call 11 (some 16) 26 #[.slice (some ⟨p, 0, none⟩) 3 3] rfl rfl rfl rfl (enters_of Tryd.func26 (by kernel_rfl) rfl) (by simp [Act.eval]) (order_cell _ 3 3 x3) ?_
      rintro e x4 ⟨bq, rfl, cQ, hbq, b4⟩
      have hne : (Value.slice A2 n2 c2).ownBlock ≠ some bq := fun e => by have := (o2.lt bq e).2; omega
      have c0_4 := c0_3.trans (b4.mono c0_3.size)
      have rR := rR.below b4 rR.lt
      have o2 := o2.below b4
      clear hbq
      refine ⟨_, rfl, c0_4, ?_⟩
      simp only [Act.put, List.setIfInBounds_toArray, List.set_cons_zero, List.set_cons_succ]
      refine Held.one 12 (by kernel_rfl) ?_
      have s1 := c0_4.size
      refine Held.op_call 12 (some 17) 29 #[.slice A2 n2 c2, .func (.func 37) #[] #[.pointer (some ⟨bq, 0, none⟩)]] rfl rfl rfl rfl (enters_of Tryd.func29 (by kernel_rfl) rfl) (by simp [Act.eval]) (laid_any w1.heap.size A2 n2 c2 (eights [u64 ph, u64 r, u64 a]) bq (some ⟨p, 0, none⟩) 3 3 [t, u64 i, u64 n] x4 (o2.less (by first | exact Nat.le_refl _ | exact c0_1.size | exact c0_2.size)) s1 (by rw [eights_length]; simp) cQ hne (IntsN.row rR (fun e => hap _ e rfl)) (by omega)) ?_
      rintro e x5 ⟨A3, n3, c3, rfl, o3, b5⟩
      have c0_5 := c0_4.trans b5
      clear o2 rR cQ hap hne s1
      refine ⟨_, rfl, c0_5, ?_⟩
      simp only [Act.put, List.setIfInBounds_toArray, List.set_cons_zero, List.set_cons_succ]
      refine Held.take (v := .slice A3 n3 c3) 13 (some 4) rfl rfl (by kernel_rfl) (by kernel_rfl) (by kernel_rfl) (fun _ _ _ h => h) rfl (Held.y_assign rfl rfl) c0_5 ?_
      simp only [Act.put, List.setIfInBounds_toArray, List.set_cons_zero, List.set_cons_succ]
      refine wpAnyH_done (by kernel_rfl) ?_ _
      have dz := bw.trans (c0_5.mono bw.size)
      go_wp2_with fail
      go_ret
      exact ⟨_, _, _, rfl, o3.less bw.size, dz⟩
    · refine Held.op_build_Row 10 (some 15) 60 23 3 .u64 8 [t, u64 i, u64 n] rfl rfl rfl rfl Tryd.underlying60 info_w64 (by simp [Act.eval]) rfl (by omega) (by omega) hwz ?_
      intro p x2 rR bb hp
      have b2 : Below x1.heap.size x1 x2 := ⟨bb.os, bb.tape, bb.output, bb.size, bb.block⟩
      have c0_2 := c0_1.trans (b2.mono c0_1.size)
      have cS := (b2.cell (p := ⟨bs, 0, none⟩) (World.block_lt_of_cell? x1 _ cS)).trans cS
      have rS := rS.below b2 rS.lt
      clear bb
      refine ⟨c0_2, ?_⟩
      simp only [Act.put, List.setIfInBounds_toArray, List.set_cons_zero, List.set_cons_succ]
      refine Held.one 2 (by kernel_rfl) ?_
      refine Held.op_call 2 (some 7) 29 #[.slice none 0 0, .func (.func 37) #[] #[.pointer (some ⟨bs, 0, none⟩)]] rfl rfl rfl rfl (enters_of Tryd.func29 (by kernel_rfl) rfl) (by simp [Act.eval]) (laid_any x2.heap.size none 0 0 [] bs (some ⟨gs, 0, none⟩) 3 3 [u64 ph, u64 r, u64 a] x2 (OwnM.nil _ _ _ _) (Nat.le_refl _) (by simp) cS (by simp [Value.ownBlock]) (IntsN.row rS (fun e => by cases e)) (by omega)) ?_
      rintro e x3 ⟨A2, n2, c2, rfl, o2, b3⟩
      rw [List.nil_append] at o2
      have hL := o2.lt
      have hap : ∀ b, (Value.slice A2 n2 c2).ownBlock = some b → b ≠ p := fun b e q => by have h1 := (hL b e).1; have h2 := rR.lt; subst q; omega
      have c0_3 := c0_2.trans (b3.mono c0_2.size)
      have rR := rR.below b3 rR.lt
      clear hL cS rS
      refine ⟨_, rfl, c0_3, ?_⟩
      simp only [Act.put, List.setIfInBounds_toArray, List.set_cons_zero, List.set_cons_succ]
      refine Held.one 11 (by kernel_rfl) ?_
      refine Held.op_call 11 (some 16) 26 #[.slice (some ⟨p, 0, none⟩) 3 3] rfl rfl rfl rfl (enters_of Tryd.func26 (by kernel_rfl) rfl) (by simp [Act.eval]) (order_cell _ 3 3 x3) ?_
      rintro e x4 ⟨bq, rfl, cQ, hbq, b4⟩
      have hne : (Value.slice A2 n2 c2).ownBlock ≠ some bq := fun e => by have := (o2.lt bq e).2; omega
      have c0_4 := c0_3.trans (b4.mono c0_3.size)
      have rR := rR.below b4 rR.lt
      have o2 := o2.below b4
      clear hbq
      refine ⟨_, rfl, c0_4, ?_⟩
      simp only [Act.put, List.setIfInBounds_toArray, List.set_cons_zero, List.set_cons_succ]
      refine Held.one 12 (by kernel_rfl) ?_
      have s1 := c0_4.size
      refine Held.op_call 12 (some 17) 29 #[.slice A2 n2 c2, .func (.func 37) #[] #[.pointer (some ⟨bq, 0, none⟩)]] rfl rfl rfl rfl (enters_of Tryd.func29 (by kernel_rfl) rfl) (by simp [Act.eval]) (laid_any w1.heap.size A2 n2 c2 (eights [u64 ph, u64 r, u64 a]) bq (some ⟨p, 0, none⟩) 3 3 [t, u64 i, u64 n] x4 (o2.less (by first | exact Nat.le_refl _ | exact c0_1.size | exact c0_2.size)) s1 (by rw [eights_length]; simp) cQ hne (IntsN.row rR (fun e => hap _ e rfl)) (by omega)) ?_
      rintro e x5 ⟨A3, n3, c3, rfl, o3, b5⟩
      have c0_5 := c0_4.trans b5
      clear o2 rR cQ hap hne s1
      refine ⟨_, rfl, c0_5, ?_⟩
      simp only [Act.put, List.setIfInBounds_toArray, List.set_cons_zero, List.set_cons_succ]
      refine Held.take (v := .slice A3 n3 c3) 13 (some 4) rfl rfl (by kernel_rfl) (by kernel_rfl) (by kernel_rfl) (fun _ _ _ h => h) rfl (Held.y_assign rfl rfl) c0_5 ?_
      simp only [Act.put, List.setIfInBounds_toArray, List.set_cons_zero, List.set_cons_succ]
      refine wpAnyH_done (by kernel_rfl) ?_ _
      have dz := bw.trans (c0_5.mono bw.size)
      go_wp2_with fail
      go_ret
      exact ⟨_, _, _, rfl, o3.less bw.size, dz⟩
  · refine Held.op_build_Row 10 (some 15) 60 23 3 .u64 8 [t, u64 i, u64 n] rfl rfl rfl rfl Tryd.underlying60 info_w64 (by simp [Act.eval]) rfl (by omega) (by omega) hwz ?_
    intro p x1 rR bb hp
    have b1 : Below w1.drew.heap.size w1.drew x1 := ⟨bb.os, bb.tape, bb.output, bb.size, bb.block⟩
    have c0_1 := c0_0.trans (b1.mono c0_0.size)
    clear bb
    refine ⟨c0_1, ?_⟩
    simp only [Act.put, List.setIfInBounds_toArray, List.set_cons_zero, List.set_cons_succ]
    refine Held.one 1 (by kernel_rfl) ?_
    refine Held.op_call 1 (some 6) 27 #[.agg #[.int .i64 ph, .int .i64 r, .int .i64 a, .int .u64 t, .int .i64 i]] rfl rfl rfl rfl (enters_of Tryd.func27 (by kernel_rfl) rfl) (by simp [Act.eval]) (spot_any ph r a t i x1) ?_
    rintro e x2 ⟨bs, gs, rfl, cS, rS, hs1, hs2, b2⟩
    have c0_2 := c0_1.trans (b2.mono c0_1.size)
    have rR := rR.below b2 rR.lt
    clear hs1 hs2
    refine ⟨_, rfl, c0_2, ?_⟩
    simp only [Act.put, List.setIfInBounds_toArray, List.set_cons_zero, List.set_cons_succ]
    refine Held.one 2 (by kernel_rfl) ?_
    refine Held.op_call 2 (some 7) 29 #[.slice none 0 0, .func (.func 37) #[] #[.pointer (some ⟨bs, 0, none⟩)]] rfl rfl rfl rfl (enters_of Tryd.func29 (by kernel_rfl) rfl) (by simp [Act.eval]) (laid_any x2.heap.size none 0 0 [] bs (some ⟨gs, 0, none⟩) 3 3 [u64 ph, u64 r, u64 a] x2 (OwnM.nil _ _ _ _) (Nat.le_refl _) (by simp) cS (by simp [Value.ownBlock]) (IntsN.row rS (fun e => by cases e)) (by omega)) ?_
    rintro e x3 ⟨A2, n2, c2, rfl, o2, b3⟩
    rw [List.nil_append] at o2
    have hL := o2.lt
    have hap : ∀ b, (Value.slice A2 n2 c2).ownBlock = some b → b ≠ p := fun b e q => by have h1 := (hL b e).1; have h2 := rR.lt; subst q; omega
    have c0_3 := c0_2.trans (b3.mono c0_2.size)
    have rR := rR.below b3 rR.lt
    clear hL cS rS
    refine ⟨_, rfl, c0_3, ?_⟩
    simp only [Act.put, List.setIfInBounds_toArray, List.set_cons_zero, List.set_cons_succ]
    refine Held.one 11 (by kernel_rfl) ?_
    refine Held.op_call 11 (some 16) 26 #[.slice (some ⟨p, 0, none⟩) 3 3] rfl rfl rfl rfl (enters_of Tryd.func26 (by kernel_rfl) rfl) (by simp [Act.eval]) (order_cell _ 3 3 x3) ?_
    rintro e x4 ⟨bq, rfl, cQ, hbq, b4⟩
    have hne : (Value.slice A2 n2 c2).ownBlock ≠ some bq := fun e => by have := (o2.lt bq e).2; omega
    have c0_4 := c0_3.trans (b4.mono c0_3.size)
    have rR := rR.below b4 rR.lt
    have o2 := o2.below b4
    clear hbq
    refine ⟨_, rfl, c0_4, ?_⟩
    simp only [Act.put, List.setIfInBounds_toArray, List.set_cons_zero, List.set_cons_succ]
    refine Held.one 12 (by kernel_rfl) ?_
    have s1 := c0_4.size
    refine Held.op_call 12 (some 17) 29 #[.slice A2 n2 c2, .func (.func 37) #[] #[.pointer (some ⟨bq, 0, none⟩)]] rfl rfl rfl rfl (enters_of Tryd.func29 (by kernel_rfl) rfl) (by simp [Act.eval]) (laid_any w1.heap.size A2 n2 c2 (eights [u64 ph, u64 r, u64 a]) bq (some ⟨p, 0, none⟩) 3 3 [t, u64 i, u64 n] x4 (o2.less (by first | exact Nat.le_refl _ | exact c0_1.size | exact c0_2.size)) s1 (by rw [eights_length]; simp) cQ hne (IntsN.row rR (fun e => hap _ e rfl)) (by omega)) ?_
    rintro e x5 ⟨A3, n3, c3, rfl, o3, b5⟩
    have c0_5 := c0_4.trans b5
    clear o2 rR cQ hap hne s1
    refine ⟨_, rfl, c0_5, ?_⟩
    simp only [Act.put, List.setIfInBounds_toArray, List.set_cons_zero, List.set_cons_succ]
    refine Held.take (v := .slice A3 n3 c3) 13 (some 4) rfl rfl (by kernel_rfl) (by kernel_rfl) (by kernel_rfl) (fun _ _ _ h => h) rfl (Held.y_assign rfl rfl) c0_5 ?_
    simp only [Act.put, List.setIfInBounds_toArray, List.set_cons_zero, List.set_cons_succ]
    refine wpAnyH_done (by kernel_rfl) ?_ _
    have dz := bw.trans (c0_5.mono bw.size)
    go_wp2_with fail
    go_ret
    exact ⟨_, _, _, rfl, o3.less bw.size, dz⟩
end Go.Proofs.YtoelgcdjhekafaaDoor.Ky
namespace Go.Proofs.YtoelgcdjhekafaaDoor.Ky
open Go.RowKit Go.Shelf Go.Proofs.YtoelgcdjhekafaaDoor.Mem Go.Proofs.YtoelgcdjhekafaaDoor.Help Go.Proofs.YtoelgcdjhekafaaDoor.Sum Go.Proofs.YtoelgcdjhekafaaDoor.Sha Go.Proofs.YtoelgcdjhekafaaDoor.Mac Go.Proofs.YtoelgcdjhekafaaDoor.Po Go.Proofs.YtoelgcdjhekafaaDoor.Hkdf Go.Proofs.YtoelgcdjhekafaaDoor
set_option linter.unusedVariables false
attribute [local irreducible] wpList wpListIn Calls

set_option maxRecDepth 100000 in
set_option maxHeartbeats 4000000 in
theorem eight_any (x : Int) (w : World) :
    Calls Tryd.prog 24 #[.int .u64 x] w fun e w' => ∃ A' c', e = .returned (.slice A' 8 c') ∧ Mem.Own w' w.heap.size 5 .u8 (.slice A' 8 c') (digits x 8) ∧ Below w.heap.size w w' := by
  go_enter Tryd.func24, Tryd.ntmps24
  go_wp2_with fail
  go_loopw [3, 4] (fun u i wr => ∃ (k : Nat) (A : Option Addr) (c : Nat), k ≤ 8 ∧ u = .slice A k c ∧ i = .int .i64 k ∧ Mem.Own wr w.heap.size 5 .u8 (.slice A k c) (digits x k) ∧ Below w.heap.size w wr) (fun _ i _ => 8 - (intOf i).toNat)
  case atStart => exact ⟨0, none, 0, by omega, rfl, rfl, Mem.Own.nil _ _ _ _, Below.refl _ _⟩
  case round =>
    obtain ⟨k, A, c, hk, rfl, rfl, ok, bk⟩ := hrel
    by_cases hlt : k < 8
    · have hlt' : (k : Int) < 8 := by omega
      have hk0 : (0 : Int) ≤ (k : Int) := by omega
      have W1 : IntKind.i64.wrap (8 * (k : Int)) = ((8 * k : Nat) : Int) := by rw [IntKind.wrap_i64]; omega
      have W2 : IntKind.u64.wrap ((8 * k : Nat) : Int) = ((8 * k : Nat) : Int) := by rw [IntKind.wrap_u64]; omega
      have W3 : IntKind.u8.wrap (x / 2 ^ (8 * k)) = x / 2 ^ (8 * k) % 256 := by rw [IntKind.wrap_u8]
      have W4 := fun W => Held.run_shr (P := Tryd.prog) 23 .u64 .u64 (a := x) (8 * k) (by show 8 * k ≤ 64; omega) rfl W
      have hwz : ∀ z ∈ [x / 2 ^ (8 * k) % 256], (Lit.int .u8 z).wf = true := fun z hz => by rw [List.mem_singleton.1 hz]; exact wf_byte (byte_range k)
      have HD := Lib.hid (digits_snoc k x)
      have HL := Lib.hid (digits_length k x)
      generalize x / 2 ^ (8 * k) % 256 = b at W3 hwz HD
      go_wp2_with (first
        | (refine Held.wpList_build_row (w := wr) rfl 34 5 1 _ rfl .u8 1 [b] Tryd.underlying34 info_u8 (by simp [Act.eval]) rfl (by omega) (by omega) hwz ?_; intro w2 r2 g2 z2; have o2 := ok.kept g2 (by cases (Value.slice A k c).ownBlock <;> simp))
        | (at_builtin; refine wpList_append_ints w2 rfl _ _ 34 rfl w.heap.size 5 .u8 1 Tryd.underlying34 info_u8 (.slice A k c) (digits x k) rfl o2 w2.heap.size (some ⟨wr.heap.size, 0, none⟩) 1 1 [b] rfl (by have := r2.ints (n := 1) (by simp); simpa using this) (by rw [HL.out]; omega) (by omega) (Nat.le_trans bk.size g2.size) ?_; intro v3 w3 o3 g3 t3; obtain ⟨A3, c3, rfl, h3a, h3b, j3⟩ := o3.form; obtain ⟨n3, hn3⟩ : ∃ n3, (digits x k ++ [b]).length = n3 := ⟨_, rfl⟩; rw [hn3] at o3 j3 h3a ⊢; have HN3 := Lib.hid hn3; clear hn3))
      have hn3 : n3 = k + 1 := by have := HN3.out; rw [List.length_append, HL.out] at this; simp at this; omega
      rw [← HD.out] at o3
      have b3 := (bk.grown g2 bk.size (by simp)).grown g3 (Nat.le_trans bk.size g2.size) (fun r e => (o2.2.lt r e).1)
      clear g2 g3 t3 r2 z2 j3 o2 ok bk HN3 HD
      subst hn3
      go_roundw
      case rel => exact ⟨k + 1, A3, c3, by omega, rfl, by go_num, o3, b3⟩
      case measure => simp [intOf]; omega
    · have hk8 : k = 8 := by omega
      subst hk8
      go_wp2_with fail
      go_ret
      exact ⟨A, c, rfl, ok, bk⟩

set_option maxRecDepth 100000 in
set_option maxHeartbeats 4000000 in
theorem eights_any (B : Nat) (A : Option Addr) (m c : Nat) (xs : List Int) (w : World) (h : Ints w .u64 B A m xs) (hB : B ≤ w.heap.size) (hm : m ≤ 1000) :
    Calls Tryd.prog 28 #[.slice A m c] w fun e w' => ∃ A' n' c', e = .returned (.slice A' n' c') ∧ Mem.Own w' w.heap.size 5 .u8 (.slice A' n' c') (eights xs) ∧ Below w.heap.size w w' := by
  have HM := Lib.hid h.1
  have hmi : (m : Int) ≤ 1000 := by omega
  go_enter Tryd.func28, Tryd.ntmps28
  go_wp2_with fail
  go_loopw [3, 4] (fun u i wr => ∃ (k n1 : Nat) (A1 : Option Addr) (c1 : Nat), k ≤ m ∧ u = .slice A1 n1 c1 ∧ i = .int .i64 k ∧ Mem.Own wr w.heap.size 5 .u8 (.slice A1 n1 c1) (eights (xs.take k)) ∧ Below w.heap.size w wr) (fun _ i _ => m - (intOf i).toNat)
  case atStart => exact ⟨0, 0, none, 0, by omega, rfl, rfl, by rw [List.take_zero]; exact Mem.Own.nil _ _ _ _, Below.refl _ _⟩
  case round =>
    obtain ⟨k, n1, A1, c1, hk, rfl, rfl, ok, bk⟩ := hrel
    by_cases hlt : k < m
    · obtain ⟨b, off, rfl, hb, hc⟩ := (h.below (bk.mono hB)).at_ hlt
      have hlt' : (k : Int) < (m : Int) := by omega
      have hk0 : (0 : Int) ≤ (k : Int) := by omega
      have hkl : k < xs.length := by rw [HM.out]; exact hlt
      have HE := Lib.hid (show eights (xs.take k) ++ digits (xs.getD k 0) 8 = eights (xs.take (k + 1)) by rw [← order_prefix xs hkl, eights_snoc])
      have HL := Lib.hid (show (eights (xs.take k)).length ≤ 8000 by rw [eights_length, List.length_take]; omega)
      generalize xs.getD k 0 = x at hc HE
      go_wp2_with fail
      refine (eight_any x wr).mono ?_
      rintro e w2 ⟨A2, c2, rfl, o2, b2⟩
      have j2 := o2.ints (digits_length 8 x)
      have oo := ok.below b2
      go_wp2_with (at_builtin; refine wpList_append_ints w2 rfl _ _ 34 rfl w.heap.size 5 .u8 1 Tryd.underlying34 info_u8 (.slice A1 n1 c1) (eights (xs.take k)) rfl oo w2.heap.size A2 8 c2 (digits x 8) rfl j2 (by have := HL.out; omega) (by omega) (Nat.le_trans bk.size b2.size) ?_; intro v3 w3 o3 g3 t3; obtain ⟨A3, c3, rfl, h3a, h3b, j3⟩ := o3.form; obtain ⟨n3, hn3⟩ : ∃ n3, (eights (xs.take k) ++ digits x 8).length = n3 := ⟨_, rfl⟩; rw [hn3] at o3 j3 h3a ⊢; have HN3 := Lib.hid hn3; clear hn3)
      rw [HE.out] at o3
      have b3 := (bk.trans (b2.mono bk.size)).grown g3 (Nat.le_trans bk.size b2.size) (fun r e => (oo.2.lt r e).1)
      clear g3 t3 j3 j2 oo o2 b2 ok bk HN3 HE HL hc h3a h3b
      go_roundw
      case rel => exact ⟨k + 1, n3, A3, c3, by omega, rfl, by go_num, o3, b3⟩
      case measure => simp [intOf]; omega
    · have hkm : k = m := by omega
      subst hkm
      rw [List.take_of_length_le (by rw [HM.out]; omega)] at ok
      go_wp2_with fail
      go_ret
      exact ⟨A1, n1, c1, rfl, ok, bk⟩

set_option maxHeartbeats 1000000 in
theorem raad_any (ph r a t i n : Int) (ht : (Lit.int .u64 t).wf = true) (w : World) :
    Calls Tryd.prog 20 #[.agg #[.int .i64 ph, .int .i64 r, .int .i64 a, .int .u64 t, .int .i64 i], .int .i64 n] w fun e w' => ∃ A n' c, e = .returned (.slice A n' c) ∧ OwnM w' w.heap.size 5 .u8 (.slice A n' c) (kAad ph r a t i n) ∧ Below w.heap.size w w' := by
  have h1 := u64_eq ph
  have h2 := u64_eq r
  have h3 := u64_eq a
  have h4 := u64_eq i
  have h5 := u64_eq n
  have hwz : ∀ z ∈ [u64 ph, u64 r, u64 a, t, u64 i, u64 n], (Lit.int .u64 z).wf = true := fun z hz => by
    simp only [List.mem_cons, List.not_mem_nil, or_false] at hz
    rcases hz with rfl | rfl | rfl | rfl | rfl | rfl <;> first | exact u64_wf _ | exact ht
  go_enter Tryd.func20, Tryd.ntmps20
  go_wp2_with (refine Held.wpList_build_row rfl 60 23 6 _ rfl .u64 8 [u64 ph, u64 r, u64 a, t, u64 i, u64 n] Tryd.underlying60 info_w64 (by simp [Act.eval, h1, h2, h3, h4, h5]) rfl (by omega) (by omega) hwz ?_; intro w2 r2 g2 z2)
  have b2 : Below w.heap.size w w2 := ((Below.refl _ w).alloc (Nat.le_refl _) _).grown g2 (by simp) (by simp)
  have i2 := r2.ints (n := 6) (by simp)
  refine (eights_any w2.heap.size _ 6 6 [u64 ph, u64 r, u64 a, t, u64 i, u64 n] w2 (by simpa using i2) (Nat.le_refl _) (by omega)).mono ?_
  rintro e w3 ⟨A3, n3, c3, rfl, o3, b3⟩
  have c3' := b2.trans (b3.mono b2.size)
  have o3' : OwnM w3 w.heap.size 5 .u8 (.slice A3 n3 c3) (kAad ph r a t i n) := by
    have q := (OwnM.of o3).less b2.size
    rwa [show eights [u64 ph, u64 r, u64 a, t, u64 i, u64 n] = kAad ph r a t i n by simp [kAad, eights]] at q
  clear o3 b3 i2 g2 r2 z2 b2
  go_wp2_with fail
  go_ret
  exact ⟨A3, n3, c3, rfl, o3', c3'⟩
end Go.Proofs.YtoelgcdjhekafaaDoor.Ky
namespace Go.Proofs.YtoelgcdjhekafaaDoor.Ky
open Go.RowKit Go.Shelf Go.Proofs.YtoelgcdjhekafaaDoor.Mem Go.Proofs.YtoelgcdjhekafaaDoor.Help Go.Proofs.YtoelgcdjhekafaaDoor.Sum Go.Proofs.YtoelgcdjhekafaaDoor.Sha Go.Proofs.YtoelgcdjhekafaaDoor.Mac Go.Proofs.YtoelgcdjhekafaaDoor.Po Go.Proofs.YtoelgcdjhekafaaDoor.Hkdf Go.Proofs.YtoelgcdjhekafaaDoor
set_option linter.unusedVariables false
attribute [local irreducible] wpList wpListIn Calls

theorem digits_get : ∀ (n k : Nat) (x : Int), k < n → (digits x n).getD k 0 = x / 2 ^ (8 * k) % 256
  | 0, k, x, h => absurd h (by omega)
  | n + 1, 0, x, _ => by simp [digits]
  | n + 1, k + 1, x, h => by
    rw [digits, List.getD_cons_succ, digits_get n k (x / 256) (by omega)]
    congr 1
    rw [show (2 : Int) ^ (8 * (k + 1)) = 256 * 2 ^ (8 * k) by rw [show 8 * (k + 1) = 8 * k + 8 by omega, Int.pow_add]; omega, Int.ediv_ediv_of_nonneg (by omega)]
/-- so far as it is filled -/
def part (xs : List Int) (k : Nat) : List Int := xs.take k ++ List.replicate (xs.length - k) 0
theorem part_length (xs : List Int) {k : Nat} (h : k ≤ xs.length) : (part xs k).length = xs.length := by simp [part]; omega
theorem part_zero (xs : List Int) : part xs 0 = List.replicate xs.length 0 := by simp [part]
theorem part_all (xs : List Int) : part xs xs.length = xs := by simp [part]
theorem part_set (xs : List Int) {k : Nat} (h : k < xs.length) : (part xs k).set k (xs.getD k 0) = part xs (k + 1) := by
  unfold part
  rw [List.set_append_right _ _ (by rw [List.length_take]; omega), List.length_take, Nat.min_eq_left (by omega), Nat.sub_self, show xs.length - k = (xs.length - (k + 1)) + 1 by omega, List.replicate_succ, List.set_cons_zero, ← order_prefix xs h]
  simp
theorem nonce_low (a i : Int) {k : Nat} (h : k < 8) : (nonce a i).getD k 0 = a / 2 ^ (8 * k) % 256 := by
  rw [nonce, List.getD_eq_getElem?_getD, List.getElem?_append_left (by rw [digits_length]; exact h), ← List.getD_eq_getElem?_getD, digits_get 8 k a h]
theorem nonce_high (a i : Int) {k : Nat} (h : k < 4) : (nonce a i).getD (8 + k) 0 = u64 i / 2 ^ (8 * k) % 256 := by
  rw [nonce, List.getD_eq_getElem?_getD, List.getElem?_append_right (by rw [digits_length]; omega), digits_length, Nat.add_sub_cancel_left, ← List.getD_eq_getElem?_getD, ← digits_congr 4 (show u64 i % 256 ^ 4 = i % 256 ^ 4 by unfold u64; omega), digits_get 4 k _ h]

set_option maxRecDepth 100000 in
set_option maxHeartbeats 4000000 in
theorem rnonce_any (a i : Int) (w : World) :
    Calls Tryd.prog 17 #[.int .u64 a, .int .i64 i] w fun e w' => e = .returned (.agg (arr .u8 (nonce a i))) ∧ Below w.heap.size w w' := by
  have hui := u64_eq i
  have HN := Lib.hid (nonce_length a i)
  have HB := Lib.hid (nonce_bytes a i)
  have HL := fun k (h : k < 8) => nonce_low a i h
  have HH := fun k (h : k < 4) => nonce_high a i h
  generalize hns : nonce a i = ns at HN HB HL HH
  have HNS := Lib.hid hns
  clear hns
  have HLL := Lib.hid HL
  have HHH := Lib.hid HH
  clear HL HH
  go_enter Tryd.func17, Tryd.ntmps17
  go_wp2_with (first
    | (refine wpList_alloc_Row (w := w) rfl 31 rfl .u8 12 zero_12 ?_; intro w1 r1 g1 z1)
    | (refine wpList_alloc_Row (w := w1) rfl 31 rfl .u8 12 zero_12 ?_; intro w2 r2 g2 z2))
  obtain ⟨g, hg⟩ : ∃ g, w1.heap.size = g := ⟨_, rfl⟩
  have b2 : Below w.heap.size w w2 := ((Below.refl _ w).grown g1 (Nat.le_refl _) (by simp)).grown g2 g1.size (by simp)
  have r12 := r1.grown g2 (by simp)
  have hgw : w.heap.size < g := by rw [← hg]; exact r1.lt
  rw [hg] at r2 ⊢
  have HP0 := Lib.hid (show List.replicate 12 (0 : Int) = part ns 0 by rw [part_zero, HN.out])
  clear hg r1 g1 g2 z1 z2
  go_loopw [6] (fun v wr => ∃ k : Nat, k ≤ 8 ∧ v = .int .i64 k ∧ Row wr g 31 .u8 (part ns k) ∧ Row wr w.heap.size 31 .u8 (List.replicate 12 0) ∧ Below w.heap.size w wr) (fun v _ => 8 - (intOf v).toNat)
  case atStart => exact ⟨0, by omega, rfl, by rw [← HP0.out]; exact r2, r12, b2⟩
  case round =>
    clear r2 r12 b2
    obtain ⟨k, hk, rfl, rk, ro, bk⟩ := hrel
    by_cases hlt : k < 8
    · have hkn : k < ns.length := by rw [HN.out]; omega
      have hc := rk.cell (i := k) (by rw [part_length ns (by omega)]; exact hkn)
      have hf := rk.frozen k
      have HS : Hid (Row (wr.setCell ⟨g, k, none⟩ (.int .u8 (a / 2 ^ (8 * k) % 256))) g 31 .u8 (part ns (k + 1))) := Lib.hid (by rw [← part_set ns hkn, HLL.out k hlt]; exact rk.set k (wf_byte (byte_range k)))
      have hlt' : (k : Int) < 8 := by omega
      have hk0 : (0 : Int) ≤ (k : Int) := by omega
      have W1 : IntKind.i64.wrap (8 * (k : Int)) = ((8 * k : Nat) : Int) := by rw [IntKind.wrap_i64]; omega
      have W2 : IntKind.u64.wrap ((8 * k : Nat) : Int) = ((8 * k : Nat) : Int) := by rw [IntKind.wrap_u64]; omega
      have W3 : IntKind.u8.wrap (a / 2 ^ (8 * k)) = a / 2 ^ (8 * k) % 256 := by rw [IntKind.wrap_u8]
      have W4 := fun W => Held.run_shr (P := Tryd.prog) 23 .u64 .u64 (a := a) (8 * k) (by show 8 * k ≤ 64; omega) rfl W
      generalize a / 2 ^ (8 * k) % 256 = b at W3 HS
      generalize (part ns k).getD k 0 = old at hc
      go_wp2_with fail
      go_roundw
      case rel => exact ⟨k + 1, by omega, by go_num, HS.out, ro.other (by simp; omega) _, bk.setCell (by simp; omega) _⟩
      case measure => simp [intOf]; omega
    · have hk8 : k = 8 := by omega
      subst hk8
      go_wp2_with fail
      go_loopw [7] (fun v wr => ∃ k : Nat, k ≤ 4 ∧ v = .int .i64 k ∧ Row wr g 31 .u8 (part ns (8 + k)) ∧ Row wr w.heap.size 31 .u8 (List.replicate 12 0) ∧ Below w.heap.size w wr) (fun v _ => 4 - (intOf v).toNat)
      case atStart => exact ⟨0, by omega, rfl, rk, ro, bk⟩
      case round =>
        clear rk ro bk
        obtain ⟨k, hk, rfl, rk, ro, bk⟩ := hrel
        by_cases hlt : k < 4
        · have hkn : 8 + k < ns.length := by rw [HN.out]; omega
          have hc := rk.cell (i := 8 + k) (by rw [part_length ns (by omega)]; exact hkn)
          have hf := rk.frozen (8 + k)
          have HS : ∀ W : World, W = wr → Hid (Row (W.setCell ⟨g, 8 + k, none⟩ (.int .u8 (u64 i / 2 ^ (8 * k) % 256))) g 31 .u8 (part ns (8 + k + 1))) := fun W hW => Lib.hid (by subst hW; rw [← part_set ns hkn, HHH.out k hlt]; exact rk.set (8 + k) (wf_byte (byte_range k)))
          have HS := HS _ rfl
          have hlt' : (k : Int) < 4 := by omega
          have hk0 : (0 : Int) ≤ (k : Int) := by omega
          have W1 : IntKind.i64.wrap (8 * (k : Int)) = ((8 * k : Nat) : Int) := by rw [IntKind.wrap_i64]; omega
          have W2 : IntKind.u64.wrap ((8 * k : Nat) : Int) = ((8 * k : Nat) : Int) := by rw [IntKind.wrap_u64]; omega
          have W3 : IntKind.u8.wrap (u64 i / 2 ^ (8 * k)) = u64 i / 2 ^ (8 * k) % 256 := by rw [IntKind.wrap_u8]
          have W4 := fun W => Held.run_shr (P := Tryd.prog) 23 .u64 .u64 (a := u64 i) (8 * k) (by show 8 * k ≤ 64; omega) rfl W
          have W5 : IntKind.i64.wrap (8 + (k : Int)) = ((8 + k : Nat) : Int) := by rw [IntKind.wrap_i64]; omega
          have hlt2 : ((8 + k : Nat) : Int) < 12 := by omega
          generalize u64 i / 2 ^ (8 * k) % 256 = b at W3 HS
          generalize (part ns (8 + k)).getD (8 + k) 0 = old at hc
          go_wp2_with fail
          go_roundw
          case rel => exact ⟨k + 1, by omega, by go_num, HS.out, ro.other (by simp; omega) _, bk.setCell (by simp; omega) _⟩
          case measure => simp [intOf]; omega
        · have hk4 : k = 4 := by omega
          subst hk4
          rw [show 8 + 4 = ns.length by rw [HN.out], part_all] at rk
          have HW := Lib.hid (bs_wf HB.out)
          go_wp2_with (first
            | (refine wpList_load_Row rfl 31 _ rfl g rfl 31 .u8 _ rk 12 5 Tryd.underlying31 info_12 HN.out ?_)
            | (refine wpList_store_RowTo rfl 31 _ _ rfl w.heap.size rfl 31 .u8 _ ns rfl ro 12 info_12 HN.out (by simp) HW.out ?_; intro w5 r5 g5 z5))
          have b5 : Below w.heap.size w w5 := bk.grown g5 bk.size (fun r e => by cases e; exact Nat.le_refl _)
          exact bodyPost_ret (results_Row rfl _ _ w.heap.size _ _ _ rfl r5 12 5 Tryd.underlying31 info_12 HN.out) rfl ⟨rfl, b5⟩
end Go.Proofs.YtoelgcdjhekafaaDoor.Ky
namespace Go.Proofs.YtoelgcdjhekafaaDoor.Mem
open Go.RowKit
set_option linter.unusedVariables false

theorem wpList_text {P : Program} {ops : Array Oper} {rest : List Oper} {o1 o2 : Oper} {a : Act} {w : World} {Q : Exit → Act → World → Prop} (hg1 : o1.guard = none) (hg2 : o2.guard = none) (t e : TypeId) (len : Nat) (parts : Array (Nat × Operand)) (x : Operand)
    (ho1 : o1.op = .buildSlice t len parts) (ho2 : o2.op = .convert t t x) (zs : List Int) (hu : P.underlying t = some (.slice e)) (he : P.underlying e = some (.int .u8)) (hsz : (P.info? e).map (·.size) = some 1) (hz : ((P.info? e).bind (·.zero)).isSome = true)
    (hlen : len = zs.length) (hpos : 0 < len) (hsmall : len ≤ 2 ^ 24) (hparts : parts.toList = (zs.zipIdx 0).map fun x => (x.2, Operand.const (Value.int .u8 x.1))) (hwf : ∀ z ∈ zs, (Lit.int .u8 z).wf = true)
    (hx : (a.put o1.dst (.slice (some ⟨w.heap.size, 0, none⟩) len len)).eval x = .slice (some ⟨w.heap.size, 0, none⟩) len len)
    (h : ∀ w', Ints w' .u8 w'.heap.size (some ⟨w.heap.size, 0, none⟩) len zs → Below w.heap.size w w' → Hid (w'.heap.size = w.heap.size + 1) → wpList P ops Q rest ((a.put o1.dst (.slice (some ⟨w.heap.size, 0, none⟩) len len)).put o2.dst (.slice (some ⟨w.heap.size, 0, none⟩) len len)) w') :
    wpList P ops Q (o1 :: o2 :: rest) a w := by
  refine wpList_buildFlat hg1 t e len parts ho1 .u8 zs hu hsz hz hlen hpos hsmall hparts ?_
  refine wpList_plain hg2 fun K hK => ?_
  unfold Oper.wp execOp
  simp only [ho2, hx, Sem.run_bind, Lib.run_convert_bytes_const w t e _ len len hu he, Sem.run_pure, Result.andThen_ok]
  refine hK _ _ (h _ ⟨hlen.symm, hwf, fun _ => ⟨w.heap.size, 0, rfl, by simp, fun i hi => ?_⟩⟩ ((Below.refl _ w).alloc (Nat.le_refl _) _) (Lib.hid (by simp)))
  rw [World.cell?_alloc_mark, Nat.zero_add]
  exact arr_get .u8 zs (by omega)
end Go.Proofs.YtoelgcdjhekafaaDoor.Mem
