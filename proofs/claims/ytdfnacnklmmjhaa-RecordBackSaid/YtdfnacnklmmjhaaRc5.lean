/-
  Package record's Pack and Take, by their contracts. Conditions: a record's numbers fit their kind; bytes that read as a list, at most 2^40 of them.
-/
import Derived.Test.YtdfnacnklmmjhaaRc4
namespace Go.Proofs.Ytdfnacnklmmjhaa.Rc
open Go.RowKit Go.Shelf Go.Proofs.Ytdfnacnklmmjhaa.Mem Go.Proofs.Ytdfnacnklmmjhaa.Help Go.Proofs.Ytdfnacnklmmjhaa.Sum Go.Proofs.Ytdfnacnklmmjhaa.Po Go.Proofs.Ytdfnacnklmmjhaa.Ky Go.Proofs.Ytdfnacnklmmjhaa.Ct Go.Proofs.Ytdfnacnklmmjhaa.Bit Go.Proofs.Ytdfnacnklmmjhaa.Held Go.Proofs.Ytdfnacnklmmjhaa.Range Go.Proofs.Ytdfnacnklmmjhaa
set_option linter.unusedVariables false
attribute [local go_sem] Oper.semAt_some
attribute [local irreducible] wpList wpListIn Calls

theorem zero_32 : (Try.prog.info? 30).bind (·.zero) = some (.agg (arr .u8 (List.replicate 32 0))) := by kernel_rfl
theorem info_32 : (Try.prog.info? 30).map (·.size) = some 32 := by kernel_rfl
/-- of a dead one zeros -/
def zd (d : Bool) (x : Int) : Int := if d = true then 0 else x
theorem zd_wf {d : Bool} {x : Int} (h : (Lit.int .i64 x).wf = true) : (Lit.int .i64 (zd d x)).wf = true := by
  unfold zd
  split
  · rfl
  · exact h
theorem pick_dead (d : Bool) (k v s : Int) (hk : (Lit.int .i64 k).wf = true) (hv : (Lit.int .i64 v).wf = true) (hs : (Lit.int .i64 s).wf = true) (w : World) :
    Calls Try.prog 19 #[.int .u64 (oneI d), .agg #[.bool true, .int .i64 0, .int .i64 0, .int .i64 0], .agg #[.bool d, .int .i64 k, .int .i64 v, .int .i64 s]] w fun e w' => e = .returned (.agg #[.bool d, .int .i64 (zd d k), .int .i64 (zd d v), .int .i64 (zd d s)]) ∧ Below w.heap.size w w' := by
  cases d
  · exact pick_any 0 true 0 0 0 false k v s rfl rfl rfl rfl hk hv hs w
  · exact pick_any 1 true 0 0 0 true k v s rfl rfl rfl rfl hk hv hs w
/-- a record's bytes -/
def packed (d : Bool) (k v s : Int) : List Int := eights (numbers d (zd d k) (zd d v) (zd d s))
theorem packed_length (d : Bool) (k v s : Int) : (packed d k v s).length = 32 := by rw [packed, eights_length]; rfl
theorem packed_wf (d : Bool) (k v s : Int) : ∀ z ∈ packed d k v s, (Lit.int .u8 z).wf = true := bs_wf (eights_bytes _)
theorem eights_at : ∀ (ns : List Int) (i : Nat), i < ns.length → ((eights ns).drop (8 * i)).take 8 = digits (ns.getD i 0) 8
  | [], i, h => absurd h (by simp)
  | n :: ns, 0, _ => by
    simp only [eights, List.flatMap_cons, Nat.mul_zero, List.drop_zero, List.getD_cons_zero]
    rw [List.take_append, digits_length, Nat.sub_self, List.take_zero, List.append_nil, List.take_of_length_le (by rw [digits_length]; omega)]
  | n :: ns, i + 1, h => by
    have := eights_at ns i (by simpa using h)
    simp only [eights, List.flatMap_cons, List.getD_cons_succ] at this ⊢
    rw [List.drop_append, digits_length, List.drop_of_length_le (by rw [digits_length]; omega), List.nil_append, show 8 * (i + 1) - 8 = 8 * i by omega, this]
theorem blend_laid {F a X : List Int} {i : Nat} (hF : F.length = a.length) (hX : (F.drop i).take X.length = X) (hi : i + X.length ≤ F.length) : laidOver (blend F a i) i X = blend F a (i + X.length) := by
  have hl : (F.take i).length = i := by simp; omega
  unfold laidOver blend
  rw [List.take_append, hl, Nat.sub_self, List.take_zero, List.append_nil, List.take_take, Nat.min_self, List.drop_append, hl, List.drop_of_length_le (by rw [hl]; omega), List.nil_append, show i + X.length - i = X.length by omega, List.drop_drop, ← List.append_assoc]
  congr 1
  rw [List.take_add, hX]
theorem row_own {W W' : World} {g : Nat} {t : TypeId} {k : IntKind} {zs : List Int} {row : Option Nat} (h : Row W g t k zs) (hg : W.grownBy W' row) {B : Nat} (hr : ∀ r, row = some r → B ≤ r ∧ ∃ o : Obj, W.heap[r]? = some o ∧ o.isCells = false) : Row W' g t k zs :=
  h.grown hg (fun e => by
    obtain ⟨_, o, ho, hc⟩ := hr g e.symm
    rw [h.2] at ho
    cases ho
    cases hc)
theorem blk_own {W W' : World} {g : Nat} {t : TypeId} {cs : Array Value} {row : Option Nat} (h : Blk W g t cs) (hg : W.grownBy W' row) {B : Nat} (hr : ∀ r, row = some r → B ≤ r ∧ ∃ o : Obj, W.heap[r]? = some o ∧ o.isCells = false) : Blk W' g t cs :=
  h.grown hg (fun e => by
    obtain ⟨_, o, ho, hc⟩ := hr g e.symm
    have h' : W.heap[g]? = some (.cells cs t (0, 0)) := h
    rw [h'] at ho
    cases ho
    cases hc)

/-- what a round of Pack keeps -/
def PInv (w : World) (gr gb p : Nat) (d : Bool) (k v s : Int) (pre : List Nat) (W : World) : Prop :=
  Row W gb 30 .u8 (blend (packed d k v s) (List.replicate 32 0) (8 * pre.length)) ∧ Row W gr 30 .u8 (List.replicate 32 0) ∧ Row W p 43 .u64 (numbers d (zd d k) (zd d v) (zd d s)) ∧ Below w.heap.size w W
theorem PInv.own (w : World) (gr gb p : Nat) (d : Bool) (k v s : Int) {B : Nat} (hB : w.heap.size ≤ B) : OwnFrom B (PInv w gr gb p d k v s) := fun pre W W' row ⟨h1, h2, h3, h4⟩ hg hr =>
  ⟨row_own h1 hg hr, row_own h2 hg hr, row_own h3 hg hr, h4.grown hg h4.size (fun r e => Nat.le_trans hB (hr r e).1)⟩

set_option maxRecDepth 100000 in
set_option maxHeartbeats 8000000 in
theorem pack_any (d : Bool) (k v s : Int) (hk : (Lit.int .i64 k).wf = true) (hv : (Lit.int .i64 v).wf = true) (hs : (Lit.int .i64 s).wf = true) (w : World) :
    Calls Try.prog 12 #[.agg #[.bool d, .int .i64 k, .int .i64 v, .int .i64 s]] w fun e w' => e = .returned (.agg (arr .u8 (packed d k v s))) ∧ Below w.heap.size w w' := by
  refine (callsIn_wide (n := 3)).1 ?_
  refine callsIn_of_wp_marks Try.func12 rfl trivial ?_ rfl
  simp only [Try.ntmps12, List.size_toArray, List.length_cons, List.length_nil, Nat.reduceAdd, Nat.reduceSub, Array.replicate_succ, Array.replicate_zero, List.push_toArray, List.append_toArray, List.nil_append, List.cons_append]
  refine wpIn_wide.2 ?_
  go_wp2_with (first
    | (refine wpList_box_blk (w := w) rfl 23 _ rfl #[.bool d, .int .i64 k, .int .i64 v, .int .i64 s] rfl ?_; intro ua qa ga za)
    | (refine wpList_alloc_Row (w := ua) rfl 30 rfl .u8 32 zero_32 ?_; intro ub rb gb zb)
    | (refine wpList_alloc_Row (w := ub) rfl 30 rfl .u8 32 zero_32 ?_; intro uc rc gc zc))
  have bz : Below w.heap.size w uc := (((Below.refl _ w).grown ga (Nat.le_refl _) (by simp)).grown gb ga.size (by simp)).grown gc (Nat.le_trans ga.size gb.size) (by simp)
  have qa := (qa.grown gb (by simp)).grown gc (by simp)
  have rc0 := rc.lt
  have hrb : ua.heap.size < ub.heap.size := rb.lt
  have rb := rb.grown gc (by simp)
  have hwa : w.heap.size ≤ ua.heap.size := ga.size
  clear ga gb gc za zb zc
  refine wp_mono (Q := fun e a' w' => e = .normal ∧ ∃ p7, a' = { tmps := #[.agg #[.bool d, .int .i64 k, .int .i64 v, .int .i64 s], .pointer (some ⟨w.heap.size, 0, none⟩), .pointer (some ⟨ua.heap.size, 0, none⟩), .pointer (some ⟨ub.heap.size, 0, none⟩), .pointer (some ⟨p7, 0, none⟩), undef, undef, .pointer (some ⟨w.heap.size, 0, none⟩), .bool d, .int .u64 (oneI d), .agg #[.bool true, .int .i64 0, .int .i64 0, .int .i64 0], .agg #[.bool d, .int .i64 k, .int .i64 v, .int .i64 s], .agg #[.bool d, .int .i64 (zd d k), .int .i64 (zd d v), .int .i64 (zd d s)], .agg (arr .u64 (numbers d (zd d k) (zd d v) (zd d s))), undef, undef, undef, undef, undef, undef, undef, undef, undef, undef], defers := [] } ∧ Row w' p7 43 .u64 (numbers d (zd d k) (zd d v) (zd d s)) ∧ uc.heap.size ≤ p7 ∧ Below uc.heap.size uc w') ?_ ?_
  · refine wp_region_held (S := fun W => Below uc.heap.size uc W) (by kernel_rfl) ?_
    change wpAnyH _ _ _ _ _ _ _ _ uc.drew
    have c0_0 := (Below.refl uc.heap.size uc).drew
    refine Held.take (v := .pointer (some ⟨w.heap.size, 0, none⟩)) 0 (some 7) rfl rfl (by kernel_rfl) (by kernel_rfl) (by kernel_rfl) (fun _ _ _ h => by cases h.1) rfl (Held.y_field (k := 0) (s := 0) rfl rfl Try.underlying23 rfl (by kernel_rfl) rfl) c0_0 ?_
    simp only [Act.put, List.setIfInBounds_toArray, List.set_cons_zero, List.set_cons_succ]
    refine Held.take (v := .bool d) 1 (some 8) rfl rfl (by kernel_rfl) (by kernel_rfl) (by kernel_rfl) (fun _ _ _ h => by cases h.1) rfl (Held.y_load rfl rfl (by kernel_rfl) (fun W hW => (qa.below hW qa.lt).cell rfl)) c0_0 ?_
    simp only [Act.put, List.setIfInBounds_toArray, List.set_cons_zero, List.set_cons_succ]
    refine Held.take (v := .agg #[.bool d, .int .i64 k, .int .i64 v, .int .i64 s]) 4 (some 11) rfl rfl (by kernel_rfl) (by kernel_rfl) (by kernel_rfl) (fun _ _ _ h => by cases h.1) rfl (Held.y_load_blk (n := 4) rfl rfl Try.underlying23 rfl (by kernel_rfl) rfl (fun W hW => qa.below hW qa.lt)) c0_0 ?_
    simp only [Act.put, List.setIfInBounds_toArray, List.set_cons_zero, List.set_cons_succ]
    refine Held.two 2 7 (by kernel_rfl) ?_ ?_
    · refine Held.op_call 2 (some 9) 27 #[.bool d] rfl rfl rfl rfl (enters_of Try.func27 (by kernel_rfl) rfl) (by simp [Act.eval])
        (one_b d _) ?_
      rintro e w1 ⟨rfl, b1⟩
      have c0_1 := c0_0.trans (b1.mono c0_0.size)
      refine ⟨_, rfl, c0_1, ?_⟩
      simp only [Act.put, List.setIfInBounds_toArray, List.set_cons_zero, List.set_cons_succ]
      refine Held.two 3 7 (by kernel_rfl) ?_ ?_
      · refine Held.op_call 3 (some 10) 20 #[] rfl rfl rfl rfl (enters_of Try.func20 (by kernel_rfl) rfl) (by simp)
          (dead_any _) ?_
        rintro e w2 ⟨rfl, b2⟩
        have c0_2 := c0_1.trans (b2.mono c0_1.size)
        refine ⟨_, rfl, c0_2, ?_⟩
        simp only [Act.put, List.setIfInBounds_toArray, List.set_cons_zero, List.set_cons_succ]
        refine Held.two 5 7 (by kernel_rfl) ?_ ?_
        · refine Held.op_call 5 (some 12) 19 #[.int .u64 (oneI d), .agg #[.bool true, .int .i64 0, .int .i64 0, .int .i64 0], .agg #[.bool d, .int .i64 k, .int .i64 v, .int .i64 s]] rfl rfl rfl rfl (enters_of Try.func19 (by kernel_rfl) rfl) (by simp [Act.eval])
            (pick_dead d k v s hk hv hs _) ?_
          rintro e w3 ⟨rfl, b3⟩
          have c0_3 := c0_2.trans (b3.mono c0_2.size)
          refine ⟨_, rfl, c0_3, ?_⟩
          simp only [Act.put, List.setIfInBounds_toArray, List.set_cons_zero, List.set_cons_succ]
          refine Held.two 6 7 (by kernel_rfl) ?_ ?_
          · refine Held.op_call 6 (some 13) 26 #[.agg #[.bool d, .int .i64 (zd d k), .int .i64 (zd d v), .int .i64 (zd d s)]] rfl rfl rfl rfl (enters_of Try.func26 (by kernel_rfl) rfl) (by simp [Act.eval])
              (rowOf_any d (zd d k) (zd d v) (zd d s) _) ?_
            rintro e w4 ⟨rfl, b4⟩
            have c0_4 := c0_3.trans (b4.mono c0_3.size)
            refine ⟨_, rfl, c0_4, ?_⟩
            simp only [Act.put, List.setIfInBounds_toArray, List.set_cons_zero, List.set_cons_succ]
            refine Held.one 7 (by kernel_rfl) ?_
            refine Held.op_alloc_Row 7 (some 4) 43 .u64 4 rfl rfl rfl rfl zero_row ?_
            intro p7 w5 r7 b5 h7
            have q7 := Nat.le_trans c0_4.size h7.out
            have c0_5 := c0_4.trans (b5.mono c0_4.size)
            refine ⟨c0_5, ?_⟩
            simp only [Act.put, List.setIfInBounds_toArray, List.set_cons_zero, List.set_cons_succ]
            refine Held.one 8 (by kernel_rfl) ?_
            refine Held.op_store_RowL 8 none 43 p7 43 .u64 _ (numbers d (zd d k) (zd d v) (zd d s)) rfl rfl rfl rfl rfl rfl r7 4 info_row rfl (by simp) (numbers_wf _ _ _ _) ?_
            intro w6 r7 g6
            have c0_6 := c0_5.grown g6 c0_5.size (fun r e => by cases e; exact q7)
            refine ⟨c0_6, ?_⟩
            simp only [Act.put]
            refine wpAnyH_done (by kernel_rfl) ?_ _
            exact ⟨rfl, p7, rfl, r7, q7, c0_6⟩
          · refine Held.op_alloc_Row 7 (some 4) 43 .u64 4 rfl rfl rfl rfl zero_row ?_
            intro p7 w4 r7 b4 h7
            have q7 := Nat.le_trans c0_3.size h7.out
            have c0_4 := c0_3.trans (b4.mono c0_3.size)
            refine ⟨c0_4, ?_⟩
            simp only [Act.put, List.setIfInBounds_toArray, List.set_cons_zero, List.set_cons_succ]
            refine Held.one 6 (by kernel_rfl) ?_
            refine Held.op_call 6 (some 13) 26 #[.agg #[.bool d, .int .i64 (zd d k), .int .i64 (zd d v), .int .i64 (zd d s)]] rfl rfl rfl rfl (enters_of Try.func26 (by kernel_rfl) rfl) (by simp [Act.eval])
              (rowOf_any d (zd d k) (zd d v) (zd d s) _) ?_
            rintro e w5 ⟨rfl, b5⟩
            have c0_5 := c0_4.trans (b5.mono c0_4.size)
            have r7 := r7.below b5 r7.lt
            refine ⟨_, rfl, c0_5, ?_⟩
            simp only [Act.put, List.setIfInBounds_toArray, List.set_cons_zero, List.set_cons_succ]
            refine Held.one 8 (by kernel_rfl) ?_
            refine Held.op_store_RowL 8 none 43 p7 43 .u64 _ (numbers d (zd d k) (zd d v) (zd d s)) rfl rfl rfl rfl rfl rfl r7 4 info_row rfl (by simp) (numbers_wf _ _ _ _) ?_
            intro w6 r7 g6
            have c0_6 := c0_5.grown g6 c0_5.size (fun r e => by cases e; exact q7)
            refine ⟨c0_6, ?_⟩
            simp only [Act.put]
            refine wpAnyH_done (by kernel_rfl) ?_ _
            exact ⟨rfl, p7, rfl, r7, q7, c0_6⟩
        · refine Held.op_alloc_Row 7 (some 4) 43 .u64 4 rfl rfl rfl rfl zero_row ?_
          intro p7 w3 r7 b3 h7
          have q7 := Nat.le_trans c0_2.size h7.out
          have c0_3 := c0_2.trans (b3.mono c0_2.size)
          refine ⟨c0_3, ?_⟩
          simp only [Act.put, List.setIfInBounds_toArray, List.set_cons_zero, List.set_cons_succ]
          refine Held.one 5 (by kernel_rfl) ?_
          refine Held.op_call 5 (some 12) 19 #[.int .u64 (oneI d), .agg #[.bool true, .int .i64 0, .int .i64 0, .int .i64 0], .agg #[.bool d, .int .i64 k, .int .i64 v, .int .i64 s]] rfl rfl rfl rfl (enters_of Try.func19 (by kernel_rfl) rfl) (by simp [Act.eval])
            (pick_dead d k v s hk hv hs _) ?_
          rintro e w4 ⟨rfl, b4⟩
          have c0_4 := c0_3.trans (b4.mono c0_3.size)
          have r7 := r7.below b4 r7.lt
          refine ⟨_, rfl, c0_4, ?_⟩
          simp only [Act.put, List.setIfInBounds_toArray, List.set_cons_zero, List.set_cons_succ]
          refine Held.one 6 (by kernel_rfl) ?_
          refine Held.op_call 6 (some 13) 26 #[.agg #[.bool d, .int .i64 (zd d k), .int .i64 (zd d v), .int .i64 (zd d s)]] rfl rfl rfl rfl (enters_of Try.func26 (by kernel_rfl) rfl) (by simp [Act.eval])
            (rowOf_any d (zd d k) (zd d v) (zd d s) _) ?_
          rintro e w5 ⟨rfl, b5⟩
          have c0_5 := c0_4.trans (b5.mono c0_4.size)
          have r7 := r7.below b5 r7.lt
          refine ⟨_, rfl, c0_5, ?_⟩
          simp only [Act.put, List.setIfInBounds_toArray, List.set_cons_zero, List.set_cons_succ]
          refine Held.one 8 (by kernel_rfl) ?_
          refine Held.op_store_RowL 8 none 43 p7 43 .u64 _ (numbers d (zd d k) (zd d v) (zd d s)) rfl rfl rfl rfl rfl rfl r7 4 info_row rfl (by simp) (numbers_wf _ _ _ _) ?_
          intro w6 r7 g6
          have c0_6 := c0_5.grown g6 c0_5.size (fun r e => by cases e; exact q7)
          refine ⟨c0_6, ?_⟩
          simp only [Act.put]
          refine wpAnyH_done (by kernel_rfl) ?_ _
          exact ⟨rfl, p7, rfl, r7, q7, c0_6⟩
      · refine Held.op_alloc_Row 7 (some 4) 43 .u64 4 rfl rfl rfl rfl zero_row ?_
        intro p7 w2 r7 b2 h7
        have q7 := Nat.le_trans c0_1.size h7.out
        have c0_2 := c0_1.trans (b2.mono c0_1.size)
        refine ⟨c0_2, ?_⟩
        simp only [Act.put, List.setIfInBounds_toArray, List.set_cons_zero, List.set_cons_succ]
        refine Held.one 3 (by kernel_rfl) ?_
        refine Held.op_call 3 (some 10) 20 #[] rfl rfl rfl rfl (enters_of Try.func20 (by kernel_rfl) rfl) (by simp)
          (dead_any _) ?_
        rintro e w3 ⟨rfl, b3⟩
        have c0_3 := c0_2.trans (b3.mono c0_2.size)
        have r7 := r7.below b3 r7.lt
        refine ⟨_, rfl, c0_3, ?_⟩
        simp only [Act.put, List.setIfInBounds_toArray, List.set_cons_zero, List.set_cons_succ]
        refine Held.one 5 (by kernel_rfl) ?_
        refine Held.op_call 5 (some 12) 19 #[.int .u64 (oneI d), .agg #[.bool true, .int .i64 0, .int .i64 0, .int .i64 0], .agg #[.bool d, .int .i64 k, .int .i64 v, .int .i64 s]] rfl rfl rfl rfl (enters_of Try.func19 (by kernel_rfl) rfl) (by simp [Act.eval])
          (pick_dead d k v s hk hv hs _) ?_
        rintro e w4 ⟨rfl, b4⟩
        have c0_4 := c0_3.trans (b4.mono c0_3.size)
        have r7 := r7.below b4 r7.lt
        refine ⟨_, rfl, c0_4, ?_⟩
        simp only [Act.put, List.setIfInBounds_toArray, List.set_cons_zero, List.set_cons_succ]
        refine Held.one 6 (by kernel_rfl) ?_
        refine Held.op_call 6 (some 13) 26 #[.agg #[.bool d, .int .i64 (zd d k), .int .i64 (zd d v), .int .i64 (zd d s)]] rfl rfl rfl rfl (enters_of Try.func26 (by kernel_rfl) rfl) (by simp [Act.eval])
          (rowOf_any d (zd d k) (zd d v) (zd d s) _) ?_
        rintro e w5 ⟨rfl, b5⟩
        have c0_5 := c0_4.trans (b5.mono c0_4.size)
        have r7 := r7.below b5 r7.lt
        refine ⟨_, rfl, c0_5, ?_⟩
        simp only [Act.put, List.setIfInBounds_toArray, List.set_cons_zero, List.set_cons_succ]
        refine Held.one 8 (by kernel_rfl) ?_
        refine Held.op_store_RowL 8 none 43 p7 43 .u64 _ (numbers d (zd d k) (zd d v) (zd d s)) rfl rfl rfl rfl rfl rfl r7 4 info_row rfl (by simp) (numbers_wf _ _ _ _) ?_
        intro w6 r7 g6
        have c0_6 := c0_5.grown g6 c0_5.size (fun r e => by cases e; exact q7)
        refine ⟨c0_6, ?_⟩
        simp only [Act.put]
        refine wpAnyH_done (by kernel_rfl) ?_ _
        exact ⟨rfl, p7, rfl, r7, q7, c0_6⟩
    · refine Held.op_alloc_Row 7 (some 4) 43 .u64 4 rfl rfl rfl rfl zero_row ?_
      intro p7 w1 r7 b1 h7
      have q7 := Nat.le_trans c0_0.size h7.out
      have c0_1 := c0_0.trans (b1.mono c0_0.size)
      refine ⟨c0_1, ?_⟩
      simp only [Act.put, List.setIfInBounds_toArray, List.set_cons_zero, List.set_cons_succ]
      refine Held.one 2 (by kernel_rfl) ?_
      refine Held.op_call 2 (some 9) 27 #[.bool d] rfl rfl rfl rfl (enters_of Try.func27 (by kernel_rfl) rfl) (by simp [Act.eval])
        (one_b d _) ?_
      rintro e w2 ⟨rfl, b2⟩
      have c0_2 := c0_1.trans (b2.mono c0_1.size)
      have r7 := r7.below b2 r7.lt
      refine ⟨_, rfl, c0_2, ?_⟩
      simp only [Act.put, List.setIfInBounds_toArray, List.set_cons_zero, List.set_cons_succ]
      refine Held.one 3 (by kernel_rfl) ?_
      refine Held.op_call 3 (some 10) 20 #[] rfl rfl rfl rfl (enters_of Try.func20 (by kernel_rfl) rfl) (by simp)
        (dead_any _) ?_
      rintro e w3 ⟨rfl, b3⟩
      have c0_3 := c0_2.trans (b3.mono c0_2.size)
      have r7 := r7.below b3 r7.lt
      refine ⟨_, rfl, c0_3, ?_⟩
      simp only [Act.put, List.setIfInBounds_toArray, List.set_cons_zero, List.set_cons_succ]
      refine Held.one 5 (by kernel_rfl) ?_
      refine Held.op_call 5 (some 12) 19 #[.int .u64 (oneI d), .agg #[.bool true, .int .i64 0, .int .i64 0, .int .i64 0], .agg #[.bool d, .int .i64 k, .int .i64 v, .int .i64 s]] rfl rfl rfl rfl (enters_of Try.func19 (by kernel_rfl) rfl) (by simp [Act.eval])
        (pick_dead d k v s hk hv hs _) ?_
      rintro e w4 ⟨rfl, b4⟩
      have c0_4 := c0_3.trans (b4.mono c0_3.size)
      have r7 := r7.below b4 r7.lt
      refine ⟨_, rfl, c0_4, ?_⟩
      simp only [Act.put, List.setIfInBounds_toArray, List.set_cons_zero, List.set_cons_succ]
      refine Held.one 6 (by kernel_rfl) ?_
      refine Held.op_call 6 (some 13) 26 #[.agg #[.bool d, .int .i64 (zd d k), .int .i64 (zd d v), .int .i64 (zd d s)]] rfl rfl rfl rfl (enters_of Try.func26 (by kernel_rfl) rfl) (by simp [Act.eval])
        (rowOf_any d (zd d k) (zd d v) (zd d s) _) ?_
      rintro e w5 ⟨rfl, b5⟩
      have c0_5 := c0_4.trans (b5.mono c0_4.size)
      have r7 := r7.below b5 r7.lt
      refine ⟨_, rfl, c0_5, ?_⟩
      simp only [Act.put, List.setIfInBounds_toArray, List.set_cons_zero, List.set_cons_succ]
      refine Held.one 8 (by kernel_rfl) ?_
      refine Held.op_store_RowL 8 none 43 p7 43 .u64 _ (numbers d (zd d k) (zd d v) (zd d s)) rfl rfl rfl rfl rfl rfl r7 4 info_row rfl (by simp) (numbers_wf _ _ _ _) ?_
      intro w6 r7 g6
      have c0_6 := c0_5.grown g6 c0_5.size (fun r e => by cases e; exact q7)
      refine ⟨c0_6, ?_⟩
      simp only [Act.put]
      refine wpAnyH_done (by kernel_rfl) ?_ _
      exact ⟨rfl, p7, rfl, r7, q7, c0_6⟩
  · rintro e a' v1 ⟨rfl, p7, rfl, rn, q7, cz⟩
    have rb := rb.below cz rb.lt
    have rc := rc.below cz rc.lt
    have bz := bz.trans (cz.mono bz.size)
    have hbp : ub.heap.size < p7 := Nat.lt_of_lt_of_le rc0 q7
    clear cz qa
    have rc1 := rc.lt
    have hsl : ∀ W, (Instr.sliceAt 30 (.pointer (some ⟨ub.heap.size, 0, none⟩)) none none none).run Try.prog W = .ok (.slice (some ⟨ub.heap.size, 0, none⟩) 32 32) W := fun W => run_slice_arr_all (P := Try.prog) 30 5 32 ub.heap.size W Try.underlying30 (by kernel_rfl) (by omega)
    go_wp2_with fail
    refine (words_any (some ⟨ub.heap.size, 0, none⟩) 32 32 v1).mono ?_
    rintro e v2 ⟨bx, rfl, qx, hbx, bw⟩
    have rb := rb.below bw rb.lt
    have rc := rc.below bw rc.lt
    have rn := rn.below bw rn.lt
    have bz := bz.trans (bw.mono bz.size)
    have hbxb : ub.heap.size ≠ bx := fun e => by rw [← e] at hbx; exact absurd (Nat.lt_of_lt_of_le rc1 hbx) (Nat.lt_irrefl _)
    have hit := fun N => words_give N bx (fun b => b = ub.heap.size) ub.heap.size 0 32 32 v2 (qx.cell rfl) (fun e => hbxb e.symm) (Nat.le_refl _) (by omega)
    have hF : (packed d k v s).length = (List.replicate 32 (0 : Int)).length := by rw [packed_length]; simp
    have lt1 := rb.lt
    have lt2 := rc.lt
    clear bw hsl
    go_wp2_with fail
    refine (wpIn_wide (n := 3)).1 ?_
    refine wpIn_rangeFunc_give rfl (by omega) (gf := 36) (lb := #[.pointer (some ⟨bx, 0, none⟩)]) rfl trivial (enters_of Try.func36 (by kernel_rfl) rfl)
      (hit _) (fun h k => h.trans k) (fun W l o o' hl ho hc _ => Only.put W l o o' ho hc) (Below.refl _ _) (fun x B W args hx => by cases hx; rfl)
      (PInv w ua.heap.size ub.heap.size p7 d k v s) (PInv.own w _ _ _ d k v s (Nat.le_trans bz.size (Nat.le_refl _))) ⟨by rw [List.length_nil, Nat.mul_zero, blend_zero]; exact rc, rb, rn, bz⟩
      (fun x a' pre W => PInv w ua.heap.size ub.heap.size p7 d k v s pre W ∧ a' = { tmps := #[.agg #[.bool d, .int .i64 k, .int .i64 v, .int .i64 s], .pointer (some ⟨w.heap.size, 0, none⟩), .pointer (some ⟨ua.heap.size, 0, none⟩), .pointer (some ⟨ub.heap.size, 0, none⟩), .pointer (some ⟨p7, 0, none⟩), .int .i64 (x : Int), .slice (some ⟨ub.heap.size, 0 + 8 * x, none⟩) 8 (32 - 8 * x), .pointer (some ⟨w.heap.size, 0, none⟩), .bool d, .int .u64 (oneI d), .agg #[.bool true, .int .i64 0, .int .i64 0, .int .i64 0], .agg #[.bool d, .int .i64 k, .int .i64 v, .int .i64 s], .agg #[.bool d, .int .i64 (zd d k), .int .i64 (zd d v), .int .i64 (zd d s)], .agg (arr .u64 (numbers d (zd d k) (zd d v) (zd d s))), .slice (some ⟨ub.heap.size, 0, none⟩) 32 32, .func (.func 36) #[] #[.pointer (some ⟨bx, 0, none⟩)], .int .i64 (x : Int), .slice (some ⟨ub.heap.size, 0 + 8 * x, none⟩) 8 (32 - 8 * x), undef, undef, undef, undef, undef, undef], defers := [] }) ?ib ?assign ?body ?done
    case ib =>
      rintro x a' pre W W' row ⟨hv, h7⟩ hgr hr
      exact ⟨PInv.own w _ _ _ d k v s (Nat.le_trans bz.size (Nat.le_refl _)) pre W W' row hv hgr hr, h7⟩
    case assign =>
      rintro l pre x args W0 W K hv hg rfl hp hsz hK
      simp only [Held.zip_two, List.setIfInBounds_toArray, List.set_cons_zero, List.set_cons_succ]
      gi_wp2_with fail
      exact hK _ _ (KeepsOthers.refl _) (Only.refl _ _) ⟨PInv.own w _ _ _ d k v s (Nat.le_trans bz.size (Nat.le_refl _)) pre W0 W none hv hg (fun r e => by cases e), rfl⟩
    case body =>
      rintro l pre x a' W ⟨⟨i1, i2, i3, i4⟩, rfl⟩ hp hsz
      obtain ⟨hx, hx4⟩ := prefix_range hp
      have hx4 : x < 4 := hx4
      rw [← hx] at i1
      have hx4' : (x : Int) < 4 := by omega
      have hx0 : (0 : Int) ≤ (x : Int) := by omega
      have cn := i3.cell (i := x) (by rw [numbers_length]; exact hx4)
      have HLB := Lib.hid (show 8 * x + 8 ≤ (blend (packed d k v s) (List.replicate 32 0) (8 * x)).length by rw [blend_length hF]; simp; omega)
      have HBL := Lib.hid (show laidOver (blend (packed d k v s) (List.replicate 32 0) (8 * x)) (8 * x) (digits ((numbers d (zd d k) (zd d v) (zd d s)).getD x 0) 8) = blend (packed d k v s) (List.replicate 32 0) (8 * (pre ++ [x]).length) by
        have := blend_laid (i := 8 * x) (X := digits ((numbers d (zd d k) (zd d v) (zd d s)).getD x 0) 8) hF (by rw [digits_length, packed, eights_at _ _ hx4]) (by rw [digits_length, packed_length]; omega)
        rw [digits_length] at this
        rw [this, List.length_append, List.length_singleton, ← hx]
        congr 1)
      clear hx hp
      generalize (numbers d (zd d k) (zd d v) (zd d s)).getD x 0 = y at cn HBL
      gi_wp2_with fail
      refine ⟨trivial, ?_⟩
      refine (CallsIn.inRound l (callsIn_wide.2 (put_any ub.heap.size (8 * x) 8 (32 - 8 * x) y 30 _ W i1 (by omega) HLB.out))).mono ?_
      rintro e W4 ⟨rfl, r4, g4⟩
      rw [HBL.out] at r4
      gi_wp2_with fail
      exact ⟨Held.others_of_grown i1.2 g4, Only.of_grown g4 (fun r e => by cases e; rfl), r4, i2.grown g4 (by intro e; injection e with e; omega), i3.grown g4 (by intro e; injection e with e; omega), i4.grown g4 i4.size (fun r e => by cases e; omega)⟩
    case done =>
      rintro D W hD ⟨i1, i2, i3, i4⟩ hDl
      have e4 : blend (packed d k v s) (List.replicate 32 0) (8 * (List.range (32 / 8)).length) = packed d k v s := by
        have := blend_all hF
        rw [List.length_replicate] at this
        rw [List.length_range]
        exact this
      rw [e4] at i1
      go_wp2_with (first
        | (refine wpList_load_Row (w := W) rfl 30 _ rfl ub.heap.size rfl 30 .u8 _ i1 32 5 Try.underlying30 info_32 (packed_length _ _ _ _) ?_)
        | (refine wpList_store_RowTo (w := W) rfl 30 _ _ rfl ua.heap.size rfl 30 .u8 _ _ rfl i2 32 info_32 (packed_length _ _ _ _) (by simp) (packed_wf _ _ _ _) ?_; intro W5 r5 g5 z5))
      have d5 : W5.heap[D]? = some (.deferred (some [])) := (g5.block D (Array.getElem?_eq_some_iff.1 hDl).1 (by intro e; injection e with e; omega)).trans hDl
      have b5 := i4.grown g5 i4.size (fun r e => by cases e; exact hwa)
      refine ⟨by simp, .inl ⟨_, _, rfl, run_takeDeferred d5, ?_⟩⟩
      have r9 : Row (W5.putObj D (.deferred none)) ua.heap.size 30 .u8 (packed d k v s) := ⟨r5.1, (World.putObj_heap_other (by omega)).trans r5.2⟩
      refine ⟨.agg (arr .u8 (packed d k v s)), results_Row rfl _ _ ua.heap.size _ _ _ rfl r9 32 5 Try.underlying30 info_32 (packed_length _ _ _ _), rfl, ?_⟩
      exact b5.grown (grownBy_putObj' _ D _) b5.size (fun r e => by cases e; omega)

end Go.Proofs.Ytdfnacnklmmjhaa.Rc

