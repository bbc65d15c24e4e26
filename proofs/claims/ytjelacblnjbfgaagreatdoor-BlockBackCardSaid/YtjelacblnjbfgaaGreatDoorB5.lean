/-
  The function Tag of package mac by its contract: HMAC of all parts, one behind the other.
  mac.Tag of parts that the caller has just laid into a list, by its contract.
  A table stays where only other blocks change: no program here.
  A range over a function whose iterator keeps cells of its own, and whose body may leave early (or whose iterator never ends by itself): what the iterator is told of the rounds, counted, and what the loop owes: no program here.
  Where every activation may run, what is shown of a region without a fence holds within a round, and within an iterator, too: no program here.
  The pieces of package hkdf as plain functions, and the iterator over them by its contract.
-/
import Derived.Test.YtjelacblnjbfgaaGreatDoorB4
import Derived.Test.YtjelacblnjbfgaaGreatDoorB2
import Derived.Test.YtjelacblnjbfgaaGreatDoorB1
import Derived.OrdersIn
set_option linter.unusedVariables false
namespace Go.Proofs.YtjelacblnjbfgaaGreatDoor.Mac
open Go.RowKit Go.Shelf Mem Help Go.Proofs.YtjelacblnjbfgaaGreatDoor.Sum Sha
attribute [local irreducible] wpList wpListIn
set_option maxRecDepth 100000 in
set_option maxHeartbeats 4000000 in
theorem tag_any (B B' : Nat) (A A' : Option Addr) (n c m c' : Nat) (zs : List Int) (vs : List Value) (xss : List (List Int)) (w : World) (hi : Ints w .u8 B A n zs) (hc : n ≤ c) (hc' : c ≤ maxLen) (hnn : n ≤ 1099511627776) (h : Vals w B' A' m vs) (ht : Texts w B' vs xss) (hB : B ≤ w.heap.size) (hB' : B' ≤ w.heap.size) (hm : m ≤ 1048576) (hn : xss.flatten.length ≤ 549755813888)
    (hT0 : Tab w 2 Sum.H0) (hT1 : Tab w 3 Sum.K) :
    Calls Tryz.prog 106 #[.slice A n c, .slice A' m c'] w fun e w' => e = .returned (.agg (arr .u8 (tag zs xss.flatten))) ∧ Below w.heap.size w w' := by
  have hzb : Bs zs := fun z hz => wf_u8 (hi.2.1 z hz)
  have HB := Lib.hid (blk_length zs)
  have HBB := Lib.hid (blk_bytes hzb)
  go_enter Tryz.func106, Tryz.ntmps106
  go_wp2_with (refine wpList_alloc_Row rfl 22 rfl .u8 32 zero_32 ?_; intro w0 r0 g0 z0)
  have b0 : Below w.heap.size w w0 := (Below.refl _ w).grown g0 (Nat.le_refl _) (by simp)
  have l0 := r0.lt
  refine (fitted_any B A n c zs _ (hi.below (b0.mono hB)) (by omega) hc hc' hnn (hT0.below b0 hT0.lt) (hT1.below b0 hT1.lt)).mono ?_
  rintro e w1 ⟨rfl, hb1⟩
  have b1 := b0.trans (hb1.mono b0.size)
  have r1 := r0.below hb1 l0
  have s1 := hb1.size
  have l1 := r1.lt
  clear hb1 r0 b0 g0 z0
  go_wp2_with (first
    | (refine wpList_alloc_Row (w := w1) rfl 88 rfl .u8 64 zero_64 ?_; intro w2 r2 g2 z2)
    | (refine wpList_store_RowTo (w := w2) rfl 88 _ _ rfl w1.heap.size rfl 88 .u8 _ (blk zs) rfl r2 64 info_64m HB.out (by simp) (fun z hz => wf_of_byte (HBB.out z hz)) ?_; intro w3 r3 g3 z3)
    | (refine wpList_load_Row rfl 88 _ rfl w1.heap.size rfl 88 .u8 _ r3 64 5 Tryz.underlying88 info_64m HB.out ?_))
  have b3 : Below w.heap.size w w3 := (b1.grown g2 b1.size (by simp)).grown g3 (by have := g2.size; have := b1.size; omega) (fun r e => by have := b1.size; cases e; omega)
  have r13 := (r1.grown g2 (by simp)).grown g3 (by intro e; injection e with e; omega)
  clear r1 r2 g2 g3 z2 z3 b1
  refine (keyed_any 54 (blk zs) B' A' m c' vs xss _ HB.out HBB.out (h.below (b3.mono hB')) (ht.below (b3.mono hB')) (by have := b3.size; omega) hm hn ht.bs (hT0.below b3 hT0.lt) (hT1.below b3 hT1.lt)).mono ?_
  rintro e w4 ⟨rfl, hb4⟩
  have b4 := b3.trans (hb4.mono b3.size)
  have q0 := r13.below hb4 r13.lt
  have q5 := r3.below hb4 r3.lt
  have l5 := r3.lt
  obtain ⟨msg, hmsg⟩ : ∃ msg, Sum.sha (turned 54 (blk zs) ++ xss.flatten) = msg := ⟨_, rfl⟩
  have hml : msg.length = 32 := by rw [← hmsg]; exact sha_length _
  have hmb : Bs msg := by rw [← hmsg]; exact sha_bytes _
  rw [hmsg]
  have HTG := Lib.hid (show tag zs xss.flatten = Sum.sha (turned 92 (blk zs) ++ msg) by unfold tag; rw [hmsg])
  have HML := Lib.hid hml
  have hs4 := hb4.size
  clear r13 r3 b3 hb4 hmsg hml
  go_wp2_with (first
    | (refine wpList_alloc_Row (w := w4) rfl 22 rfl .u8 32 zero_32 ?_; intro w5 r5 g5 z5)
    | (refine wpList_store_RowTo (w := w5) rfl 22 _ _ rfl w4.heap.size rfl 22 .u8 _ msg rfl r5 32 info_32 HML.out (by simp) (fun z hz => wf_of_byte (hmb z hz)) ?_; intro w6 r6 g6 z6))
  have b6 : Below w.heap.size w w6 := (b4.grown g5 b4.size (by simp)).grown g6 (by have := g5.size; have := b4.size; omega) (fun r e => by have := b4.size; cases e; omega)
  have p0 := (q0.grown g5 (by simp)).grown g6 (by intro e; injection e with e; omega)
  have p5 := (q5.grown g5 (by simp)).grown g6 (by intro e; injection e with e; omega)
  have l4 := r6.lt
  have l6 := p0.lt
  have l56 := p5.lt
  clear q0 q5 r5 g5 g6 z5 z6 b4 hs4
  refine wp_region_held (S := fun w' => Row w' w1.heap.size 88 .u8 (blk zs)) (by kernel_rfl) ?_
  refine Held.take 0 (some 12) rfl rfl (by kernel_rfl) (by kernel_rfl) (by kernel_rfl) (fun _ _ _ h => h) rfl (Held.y_load_Row (t := 88) (zs := blk zs) rfl rfl Tryz.underlying88 info_64m HB.out (fun w h => h)) p5 ?_
  simp only [Act.put, Z1, Z2, Z3]
  refine Held.take 1 (some 13) rfl rfl (by kernel_rfl) (by kernel_rfl) (by kernel_rfl) (fun _ _ _ h => h) rfl (Held.y_slice rfl (fun w => run_slice_arr_all (P := Tryz.prog) 22 5 32 w4.heap.size w Tryz.underlying22 (by kernel_rfl) (by omega))) p5 ?_
  simp only [Act.put, Z1, Z2, Z3]
  change wpAnyH _ _ _ _ _ _ _ _ w6.drew
  have b6d : Below w.heap.size w w6.drew := b6.drew
  have rD : Row w6.drew w4.heap.size 22 .u8 msg := r6
  have pA : Row w6.drew w.heap.size 22 .u8 (List.replicate 32 0) := p0
  have pB : Row w6.drew w1.heap.size 88 .u8 (blk zs) := p5
  refine Held.one 2 (by kernel_rfl) ?_
  refine Held.op_build 2 (some 14) 89 27 1 (.slice none 0 0) 24 [.slice (some ⟨w4.heap.size, 0, none⟩) 32 32] rfl rfl rfl rfl Tryz.underlying89 info_bytes (by simp [Act.eval]) (by simp [Value.cells]) (by simp [Value.oneCell']) rfl (by omega) (by omega) ?_
  intro p wA n1 hbA
  have bA := b6d.trans (hbA.mono b6d.size)
  have rA := rD.below hbA rD.lt
  have pA1 := pA.below hbA pA.lt
  have pB1 := pB.below hbA pB.lt
  have i6 := rA.ints (n := 32) (by rw [HML.out]; omega)
  rw [List.take_of_length_le (by rw [HML.out]; omega)] at i6
  have t1 := Texts.one i6 (Nat.le_refl 32) (by simp [maxLen])
  refine ⟨pB1, ?_⟩
  simp only [Act.put, Z1, Z2, Z3]
  refine Held.one 3 (by kernel_rfl) ?_
  refine Held.op_call 3 (some 15) 113 #[.agg (arr .u8 (blk zs)), .int .u8 92, .slice (some ⟨p, 0, none⟩) 1 1] rfl rfl rfl rfl (enters_of Tryz.func113 (by kernel_rfl) rfl) (by simp [Act.eval])
    (keyed_any 92 (blk zs) _ _ 1 1 _ [msg] _ HB.out HBB.out n1 t1 (Nat.le_refl _) (by omega) (by simp [HML.out]) (by simpa using hmb) (hT0.below bA hT0.lt) (hT1.below bA hT1.lt)) ?_
  rintro e w7 ⟨rfl, hb7⟩
  have p07 := pA1.below hb7 pA1.lt
  have pB7 := pB1.below hb7 pB1.lt
  refine ⟨_, rfl, pB7, ?_⟩
  simp only [Act.put, Z1, Z2, Z3]
  have hne : w1.heap.size ≠ w.heap.size := by omega
  refine Held.one 4 (by kernel_rfl) ?_
  refine Held.op_store_Row 4 none 22 w.heap.size 22 .u8 _ (Sum.sha (turned 92 (blk zs) ++ [msg].flatten)) rfl rfl rfl rfl rfl rfl p07 32 info_32 (sha_length _) (by simp) ⟨pB7.setRow_other (fun e => hne e.symm) _, ?_⟩
  simp only [Act.put]
  refine wpAnyH_done (by kernel_rfl) ?_ _
  have r8 := p07.setRow (zs := Sum.sha (turned 92 (blk zs) ++ [msg].flatten)) (fun z hz => wf_of_byte (sha_bytes _ z hz))
  have b7 := bA.trans (hb7.mono bA.size)
  have b8 : Below w.heap.size w (w7.setRow w.heap.size (arr .u8 (Sum.sha (turned 92 (blk zs) ++ [msg].flatten)))) := b7.grown (grown_setRow _ _ _) b7.size (fun r e => by cases e; exact Nat.le_refl _)
  generalize w7.setRow w.heap.size (arr .u8 (Sum.sha (turned 92 (blk zs) ++ [msg].flatten))) = w8 at r8 b8
  have em : [msg].flatten = msg := by simp
  rw [em] at r8 ⊢
  rw [← HTG.out] at r8
  have HTL := Lib.hid (tag_length zs xss.flatten)
  clear em p07 hb7 pA pB pA1 pB1 pB7 t1 n1 i6 bA rA rD
  go_wp2_with fail
  exact bodyPost_ret (results_Row rfl _ _ w.heap.size _ _ _ rfl r8 32 5 Tryz.underlying22 info_32 HTL.out) rfl ⟨rfl, b8⟩
end Go.Proofs.YtjelacblnjbfgaaGreatDoor.Mac
namespace Go.Proofs.YtjelacblnjbfgaaGreatDoor.Mac
open Go.RowKit Mem Help Go.Proofs.YtjelacblnjbfgaaGreatDoor.Sum Sha
theorem tag_built (w : World) (A : Option Addr) (n c : Nat) (key : List Int) (m cc : Nat) (vs : List Value) (xss : List (List Int)) (zs : List Int) (hk : Ints w .u8 w.heap.size A n key) (hc : n ≤ c) (hc' : c ≤ maxLen) (hn : n ≤ 1099511627776)
    (hv : vs.length = m) (hm : m ≤ 1000) (ht : Texts w w.heap.size vs xss) (hx : xss.flatten = zs) (hz : zs.length ≤ 549755813888) (hT0 : Tab w 2 Sum.H0) (hT1 : Tab w 3 Sum.K) :
    Calls Tryz.prog 106 #[.slice A n c, .slice (some ⟨w.heap.size, 0, none⟩) m cc] (w.alloc (.cells vs.toArray 27)) fun e w' => e = .returned (.agg (arr .u8 (tag key zs))) ∧ Below w.heap.size w w' := by
  subst hv
  subst hx
  have p1 := Vals.new w 27 vs ht.one_cell
  have hb1 : Below w.heap.size w (w.alloc (.cells vs.toArray 27)) := (Below.refl _ w).alloc (Nat.le_refl _) _
  have t1 := (ht.below hb1).more (B' := w.heap.size + 1) (by omega)
  refine (tag_any _ _ A _ n c _ cc key _ xss _ (hk.below hb1) hc hc' hn p1 t1 (by simp) (by simp) (by omega) hz (hT0.below hb1 hT0.lt) (hT1.below hb1 hT1.lt)).mono ?_
  rintro e w' ⟨rfl, hb⟩
  exact ⟨rfl, hb1.trans (hb.mono (by simp))⟩
theorem tag_one (w : World) (B B' : Nat) (A A' : Option Addr) (n c n' d cc : Nat) (key zs : List Int) (hk : Ints w .u8 B A n key) (hB : B ≤ w.heap.size) (hc : n ≤ c) (hc' : c ≤ maxLen) (hn : n ≤ 1099511627776) (h : Ints w .u8 B' A' n' zs) (hB' : B' ≤ w.heap.size) (hd : n' ≤ d) (hd' : d ≤ maxLen) (hn' : n' ≤ 549755813888)
    (hT0 : Tab w 2 Sum.H0) (hT1 : Tab w 3 Sum.K) :
    Calls Tryz.prog 106 #[.slice A n c, .slice (some ⟨w.heap.size, 0, none⟩) 1 cc] (w.alloc (.cells #[.slice A' n' d] 27)) fun e w' => e = .returned (.agg (arr .u8 (tag key zs))) ∧ Below w.heap.size w w' :=
  tag_built w A n c key 1 cc [.slice A' n' d] [zs] zs (hk.more hB) hc hc' hn rfl (by omega) (Texts.one (h.more hB') hd hd') (by simp) (by rw [h.1]; exact hn') hT0 hT1
end Go.Proofs.YtjelacblnjbfgaaGreatDoor.Mac
namespace Go.Proofs.YtjelacblnjbfgaaGreatDoor.Sha
open Go.RowKit Mem
theorem Tab.only {S : Nat → Prop} {w w' : World} {g : Nat} {zs : List Int} (h : Tab w g zs) (ho : Only S w w') (hg : ¬ S g) : Tab w' g zs := by
  obtain ⟨t, fr, h⟩ := h
  exact ⟨t, fr, ho.block g _ hg h rfl⟩
end Go.Proofs.YtjelacblnjbfgaaGreatDoor.Sha
namespace Go.Proofs.YtjelacblnjbfgaaGreatDoor.Range
open Go.RowKit
def SeqStop {α : Type} (F : Fence) (n : Nat) (P : Program) (g : Nat) (lb : Array Value) (encs : α → Array Value) (Kp : World → World → Prop) (at_ : Nat → Option α) (w : World) : Prop :=
  ∀ (l : Nat) (J Jx : Nat → World → Prop) (N : Nat) (W : World), Below w.heap.size w W → Far W.heap.size J → Far W.heap.size Jx → (∀ k W1, J k W1 → k < N) →
    (∀ k x W1, J k W1 → at_ k = some x → YieldAt F (n - 1) P l (encs x) W1 fun e W' =>
      (e = .returned (.bool true) ∧ J (k + 1) W' ∧ Kp W1 W') ∨ (e = .returned (.bool false) ∧ Jx (k + 1) W')) →
    J 0 W → CallsIn F n P g (#[.func (.yield l) #[] #[]] ++ lb) W fun e W' => (∃ v, e = .returned v) ∧ ((∃ k, at_ k = none ∧ J k W') ∨ ∃ k, Jx k W')
theorem SeqStop.inRound {α : Type} {F : Fence} {n : Nat} {P : Program} {g : Nat} {lb : Array Value} {encs : α → Array Value} {Kp : World → World → Prop} {at_ : Nat → Option α} {w : World} (l : Nat)
    (h : SeqStop F n P g lb encs Kp at_ w) : SeqStop (F.inRound l) n P g lb encs Kp at_ w := h
def stopPost (R : World → Prop) (X : Code → World → Prop) : Exit → Act → World → Prop
  | .normal, _, W' => R W'
  | .ret, _, W' => X .ret W'
  | .exit id, _, W' => X (.exit id) W'
  | .goto t, _, W' => X (.goto t) W'
  | _, _, _ => False
variable {F : Fence} {n : Nat} {P : Program}
theorem wpIn_rangeFunc_stop {α : Type} {g : Operand} {ps : Array Tmp} {assign body : Code} {Q : Exit → Act → World → Prop} {a : Act} {w : World}
    (hro : F.round = none) (h1 : 1 ≤ n) {gf : Nat} {lb : Array Value} (hg : a.eval g = .func (.func gf) #[] lb) (hFg : F.fn gf) (eg : ∀ args w, (callFunc gf args).run P w = .ok (.enter gf args) w)
    {encs : α → Array Value} {Kp : World → World → Prop} {at_ : Nat → Option α} {w0 : World} (hseq : SeqStop F (n - 1) P gf lb encs Kp at_ w0)
    (hKt : ∀ {A B C : World}, Kp A B → Kp B C → Kp A C) (hKb : ∀ (W : World) (l : Nat) (o o' : Obj), w.heap.size ≤ l → W.heap[l]? = some o → o.isCells = false → o.isWalk = false → Kp W (W.putObj l o'))
    (hb0 : Below w0.heap.size w0 w) (hps : ∀ x, (encs x).size = ps.size)
    (N : Nat) (I : Nat → World → Prop) (Ix : Code → Nat → World → Prop) (hI : Far w.heap.size I) (hIx : ∀ c, Far w.heap.size (Ix c)) (hN : ∀ k W, I k W → k < N) (h0 : I 0 w)
    (Ib : α → Act → Nat → World → Prop) (hIb : ∀ x a', OwnFrom w.heap.size (Ib x a'))
    (hassign : ∀ (l k : Nat) (x : α) (W : World) (K : Act → World → Prop), I k W → at_ k = some x → w.heap.size ≤ W.heap.size → (∀ a' W', KeepsOthers W W' → Kp W W' → Ib x a' k W' → K a' W') →
      assign.wpIn (F.inRound l) (n - 1 - 1) P (Exit.then K (fun _ _ _ => False)) { tmps := (ps.zip (encs x)).foldl (fun t (p, v) => t.setIfInBounds p v) a.tmps, defers := [] } W)
    (hbody : ∀ (l k : Nat) (x : α) (a' : Act) (W : World), w.heap.size ≤ l → (∃ r, W.heap[l]? = some (.loop r)) → Ib x a' k W → at_ k = some x → w.heap.size ≤ W.heap.size →
      body.wpIn (F.inRound l) (n - 1 - 1) P (stopPost (fun W' => KeepsOthers W W' ∧ Kp W W' ∧ I (k + 1) W') (fun c W' => KeepsOthers W W' ∧ Ix c (k + 1) W')) a' W)
    (hdone : ∀ (D k : Nat) (W : World), w.heap.size ≤ D → at_ k = none → I k W → W.heap[D]? = some (.deferred (some [])) → Q .normal { a with defers := { target := .collected D, args := #[] } :: a.defers } W)
    (hstop : ∀ (D : Nat) (c : Code) (k : Nat) (W : World), w.heap.size ≤ D → Ix c k W → W.heap[D]? = some (.deferred (some [])) → c.wpIn F n P Q { a with defers := { target := .collected D, args := #[] } :: a.defers } W) :
    (Code.rangeFunc g ps assign body).wpIn F n P Q a w := by
  refine wpIn_rangeFunc fun fn hfn => ?_
  rw [hro]
  let rec0 : LoopState → Option Code → Loop := fun st pe => { state := st, pending := pe, fn := fn, tmps := a.tmps, params := ps, assign := assign, body := body, defers := w.heap.size }
  let W1 : World := (w.alloc (.deferred (some []))).alloc (.loop (rec0 .ready none))
  have hz1 : W1.heap.size = w.heap.size + 2 := by simp [W1]
  have hl1 : W1.heap[w.heap.size + 1]? = some (.loop (rec0 .ready none)) := by
    have e := World.alloc_heap_new (w.alloc (.deferred (some []))) (.loop (rec0 .ready none))
    rwa [World.size_alloc] at e
  have hd1 : W1.heap[w.heap.size]? = some (.deferred (some [])) := (Below.heap_alloc _ _ _ (by simp)).trans (World.alloc_heap_new w _)
  have hi1 : I 0 W1 := hI.alloc _ (hI.alloc _ h0)
  have hb1 : Below w0.heap.size w0 W1 := hb0.trans ((((Below.refl _ w).alloc (Nat.le_refl _) _).alloc (by simp) _).mono hb0.size)
  refine ⟨w.heap.size + 1, [{ target := .collected w.heap.size, args := #[] }], W1, { target := .fn (.func gf) lb, args := #[.func (.yield (w.heap.size + 1)) #[] #[]] }, W1, gf,
    #[.func (.yield (w.heap.size + 1)) #[] #[]] ++ lb, W1, run_enterLoop_outer _ _ _ _ _, by simp only [resolve, hg]; simp [go_sem],
    fun f' hf' => by simp [Target.leads] at hf'; subst hf'; exact hFg, by simp [invoke, go_sem, eg], fun _ => h1, ?_⟩
  have kept : ∀ {A B : World} {row : Option Nat} (i : Nat) (o : Obj), i < W1.heap.size → A.heap[i]? = some o → A.grownBy B row → (∀ r, row = some r → W1.heap.size ≤ r) → B.heap[i]? = some o := by
    intro A B row i o hi ho hg' hr
    exact (hg'.block i (Array.getElem?_eq_some_iff.1 ho).1 (fun e => by have := hr i e.symm; omega)).trans ho
  refine (hseq (w.heap.size + 1) (fun k W => I k W ∧ W.heap[w.heap.size + 1]? = some (.loop (rec0 .ready none)) ∧ W.heap[w.heap.size]? = some (.deferred (some [])))
    (fun k W => ∃ c, Ix c k W ∧ W.heap[w.heap.size + 1]? = some (.loop (rec0 .done (some c))) ∧ W.heap[w.heap.size]? = some (.deferred (some []))) N W1 hb1
    (fun s A B row hs hg' hr => ⟨hI s A B row hs.1 hg' (fun r e => by have := hr r e; omega), kept _ _ (by omega) hs.2.1 hg' hr, kept _ _ (by omega) hs.2.2 hg' hr⟩)
    (fun s A B row hs hg' hr => by
      obtain ⟨c, h1, h2, h3⟩ := hs
      exact ⟨c, hIx c s A B row h1 hg' (fun r e => by have := hr r e; omega), kept _ _ (by omega) h2 hg' hr, kept _ _ (by omega) h3 hg' hr⟩)
    (fun k W h => hN k W h.1) ?_ ⟨hi1, hl1, hd1⟩).mono ?_
  · -- a round
    rintro k x W ⟨hi, hl, hd⟩ hat
    have hlt : w.heap.size + 1 < W.heap.size := (Array.getElem?_eq_some_iff.1 hl).1
    have hy := run_yield (P := P) (args := encs x) hl (hps x)
    refine ⟨fn, _, assign, body, hy, roundIn_of_wpIn hfn (hassign _ k x W _ hi hat (by omega) ?_)⟩
    intro a' W2 hk2 hp2 hib
    have hl2 := hk2.same _ _ hl rfl
    have hd2 := hk2.same _ _ hd rfl
    have hlt2 : w.heap.size + 1 < W2.heap.size := (Array.getElem?_eq_some_iff.1 hl2).1
    refine ⟨_, run_beginRound hl2 rfl, ?_⟩
    have hl3 : (W2.putObj (w.heap.size + 1) (.loop { rec0 .ready none with state := .busy })).heap[w.heap.size + 1]? = some (.loop { rec0 .ready none with state := .busy }) := World.putObj_heap_same hlt2
    have hd3 : (W2.putObj (w.heap.size + 1) (.loop { rec0 .ready none with state := .busy })).heap[w.heap.size]? = some (.deferred (some [])) := (World.putObj_heap_other (by omega)).trans hd2
    have hp3 : Kp W (W2.putObj (w.heap.size + 1) (.loop { rec0 .ready none with state := .busy })) := hKt hp2 (hKb _ _ _ _ (by omega) hl2 rfl rfl)
    refine wpIn_mono (hbody _ k x a' _ (by omega) ⟨_, hl3⟩ ((hIb x a').putObj _ hib (by omega) hl2 rfl) hat (by rw [World.putObj_size]; omega)) ?_
    intro e a3 W4 hp
    have fin : ∀ (jump : Code), KeepsOthers (W2.putObj (w.heap.size + 1) (.loop { rec0 .ready none with state := .busy })) W4 → Ix jump (k + 1) W4 →
        ∃ v w', (Instr.endRound (w.heap.size + 1) (some jump)).run P W4 = .ok v w' ∧ Ending.returned v = .returned (.bool false) ∧
          ∃ c, Ix c (k + 1) w' ∧ w'.heap[w.heap.size + 1]? = some (.loop (rec0 .done (some c))) ∧ w'.heap[w.heap.size]? = some (.deferred (some [])) := fun jump hk4 hi4 => by
      have hl4 := hk4.same _ _ hl3 rfl
      have hlt4 : w.heap.size + 1 < W4.heap.size := (Array.getElem?_eq_some_iff.1 hl4).1
      exact ⟨_, _, run_endRound (P := P) (some jump) hl4, rfl, jump, (hIx _).put _ hi4 (by omega), World.putObj_heap_same hlt4, (World.putObj_heap_other (by omega)).trans (hk4.same _ _ hd3 rfl)⟩
    cases e with
    | normal =>
      obtain ⟨hk4, hp4, hi4⟩ := hp
      have hl4 := hk4.same _ _ hl3 rfl
      have hlt4 : w.heap.size + 1 < W4.heap.size := (Array.getElem?_eq_some_iff.1 hl4).1
      refine ⟨_, _, run_endRound (P := P) none hl4, .inl ⟨rfl, ⟨hI.put _ hi4 (by omega), World.putObj_heap_same hlt4, (World.putObj_heap_other (by omega)).trans (hk4.same _ _ hd3 rfl)⟩, ?_⟩⟩
      exact hKt (hKt hp3 hp4) (hKb _ _ _ _ (by omega) hl4 rfl rfl)
    | ret => obtain ⟨v, w', hr, e1, e2⟩ := fin .ret hp.1 hp.2; exact ⟨v, w', hr, .inr ⟨e1, e2⟩⟩
    | exit id => obtain ⟨v, w', hr, e1, e2⟩ := fin (.exit id) hp.1 hp.2; exact ⟨v, w', hr, .inr ⟨e1, e2⟩⟩
    | goto t => obtain ⟨v, w', hr, e1, e2⟩ := fin (.goto t) hp.1 hp.2; exact ⟨v, w', hr, .inr ⟨e1, e2⟩⟩
    | panic ch => exact hp.elim
    | outgrown => exact hp.elim
  · -- behind the iterator
    rintro e W2 ⟨⟨v, rfl⟩, (⟨k, hk, hi, hl, hd⟩ | ⟨k, c, hi, hl, hd⟩)⟩
    · exact ⟨none, _, run_endLoop (P := P) hl (by simp [rec0]), hdone _ k _ (Nat.le_refl _) hk (hI.put _ hi (by omega)) ((World.putObj_heap_other (by omega)).trans hd)⟩
    · exact ⟨some c, _, run_endLoop (P := P) hl (by simp [rec0]), hstop _ c k _ (Nat.le_refl _) ((hIx c).put _ hi (by omega)) ((World.putObj_heap_other (by omega)).trans hd)⟩
end Go.Proofs.YtjelacblnjbfgaaGreatDoor.Range
namespace Go.Proofs.YtjelacblnjbfgaaGreatDoor.Held
open Go.RowKit
def wideR (r : Option Nat) : Fence := { Fence.wide with round := r }
section
variable {P : Program} {ops : Array Oper} {Q : Exit → Act → World → Prop} {n : Nat} {r : Option Nat}
theorem calls_wideR {f : FuncId} {args : Array Value} {w : World} {R : Ending → World → Prop} (h : Calls P f args w R) : CallsIn (wideR r) n P f args w R :=
  (callsIn_wide (n := n)).2 h
theorem rows_wideR {row : String} {args : Array Value} {w : World} {R : Value → World → Prop} (h : Rows P row args w R) : RowsIn (wideR r) n P row args w R := fun c cs _ => by
  obtain ⟨v, w', hR, hs⟩ := h c cs
  exact ⟨v, w', hR, stepsIn_wide.2 hs⟩
theorem opIn_of_op {o : Oper} (ho : ∀ c, o.op ≠ .defer c) {K : Act → World → Prop} {a : Act} {w : World} (h : o.wp P a w K Q) : o.wpIn (wideR r) n P a w K Q := by
  refine ⟨fun _ _ => trivial, ?_⟩
  rw [Oper.semAt_plain (wideR r) _ _ ho]
  unfold Oper.wp at h
  generalize (execOp a.eval o).run P w = x at h
  cases x with
  | ok y w' =>
    cases y with
    | value v => exact h
    | skip => exact h
    | «defer» d => exact h
    | enter f args =>
      refine ⟨fun hd => absurd (show false = true from hd) (by simp), (calls_wideR (r := r) h).mono fun e w'' he => ?_⟩
      cases e <;> exact he
    | row row args => exact ⟨fun hd => absurd (show false = true from hd) (by simp), rows_wideR h⟩
    | _ => exact h.elim
  | halt y w' => cases y <;> exact h
def noDefer (ops : Array Oper) : Bool := ops.all fun o => match o.op with | .defer _ => false | _ => true
theorem noDefer_spec (h : noDefer ops = true) {i : Nat} {o : Oper} (hi : ops[i]? = some o) : ∀ c, o.op ≠ .defer c := by
  intro c e
  have hlt := (Array.getElem?_eq_some_iff.1 hi).1
  have := (Array.all_eq_true.1 h) i hlt
  rw [(Array.getElem?_eq_some_iff.1 hi).2, e] at this
  cases this
theorem opsIn_of_op (hd : noDefer ops = true) (hq : ∀ a w, ¬ Q .outgrown a w) {i : Nat} {K : Act → World → Prop} {a : Act} {w : World} (h : wpOp P ops Q i K a w) : wpOpIn (wideR r) n P ops Q i K a w := by
  unfold wpOp at h
  unfold wpOpIn
  cases hi : ops[i]? with
  | none => simpa only [hi] using h
  | some o =>
    simp only [hi] at h ⊢
    split
    · rename_i hw
      simp only [hw, if_true] at h
      rcases h with h | ⟨_, a', w', hl⟩
      · exact opIn_of_op (noDefer_spec hd hi) h
      · exact (hq _ _ hl).elim
    · rename_i hw
      simp only [hw] at h
      exact ⟨fun _ _ => trivial, h⟩
theorem anyIn_of_any {md : Region.Mode} (hd : noDefer ops = true) (hq : ∀ a w, ¬ Q .outgrown a w) : ∀ (fuel : Nat) (listed : Array Bool) (a : Act) (w : World), wpAny P md ops Q fuel listed a w → wpAnyIn (wideR r) n P md ops Q fuel listed a w
  | 0, _, _, _, h => h
  | fuel + 1, _, _, _, h => ⟨h.1, fun i hi => wpOpIn_mono (fun a' w' h' => anyIn_of_any hd hq fuel _ a' w' h') (opsIn_of_op hd hq (h.2 i hi))⟩
theorem wpIn_region_heldR {F : Fence} (hF : F = wideR r) {S : World → Prop} {id : Nat} {a : Act} {w : World} (hm : P.follows .mixedOrders = true) (hd : noDefer ops = true) (hq : ∀ a w, ¬ Q .outgrown a w)
    (h : wpAnyH P .any ops Q S ops.size (Array.replicate ops.size false) a { w with drawn := w.drawn + 1 }) : (Code.region id ops true).wpIn F n P Q a w := by
  subst hF
  exact wpIn_region_any hm (anyIn_of_any hd hq _ _ _ _ (wpAny_of_held _ _ _ _ h))
end
section
variable {P : Program} {ops : Array Oper} {Q : Exit → Act → World → Prop} {S : World → Prop}
theorem op_load (i : Nat) (d : Option Tmp) {o : Oper} {a : Act} {w : World} {K : Act → World → Prop} (ty : TypeId) {x : Operand} (p : Addr) (v : Value) (hi : ops[i]? = some o) (hd : o.dst = d) (hw : Region.wanted o (yielded ops a.tmps) = true)
    (ho : o.op = .load ty x) (hx : a.eval x = .pointer (some p)) (hr : (loadVar ty p).run P w = .ok v w) (h : K (a.put d v) w) : wpOp P ops Q i K a w := by
  subst hd
  refine op_wp i hi hw ?_
  unfold Oper.wp execOp
  simp only [ho, hx, Instr.loadAt, Instr.sureAddr, Sem.run_bind, Sem.run_pure, Result.andThen_ok, hr]
  exact h
theorem op_alloc_Row (i : Nat) (d : Option Tmp) {o : Oper} {a : Act} {w : World} {K : Act → World → Prop} (ty : TypeId) (k : IntKind) (m : Nat) (hi : ops[i]? = some o) (hd : o.dst = d) (hw : Region.wanted o (yielded ops a.tmps) = true)
    (ho : o.op = .alloc ty) (hz : (P.info? ty).bind (·.zero) = some (.agg (Mem.arr k (List.replicate m 0))))
    (h : ∀ g w', Mem.Row w' g ty k (List.replicate m 0) → Below w.heap.size w w' → Hid (w.heap.size ≤ g) → K (a.put d (.pointer (some ⟨g, 0, none⟩))) w') : wpOp P ops Q i K a w := by
  subst hd
  refine op_wp i hi hw ?_
  unfold Oper.wp execOp
  simp only [ho, Mem.run_alloc_arr ty k m hz, Sem.run_bind, Sem.run_pure, Result.andThen_ok]
  exact h _ _ (Mem.Row.new w ty (Mem.zeros_wf k m)) ((Below.refl _ w).alloc (Nat.le_refl _) _) (Lib.hid (Nat.le_refl _))
end
end Go.Proofs.YtjelacblnjbfgaaGreatDoor.Held
namespace Go.Proofs.YtjelacblnjbfgaaGreatDoor.Held
open Go.RowKit
def plainT (P : Program) (ty : TypeId) : Bool := match P.underlying ty with | some (.struct _) => false | some (.array _ _) => false | some _ => true | none => false
theorem run_loadVar_cell {P : Program} (ty : TypeId) (p : Addr) (w : World) (v : Value) (hp : plainT P ty = true) (hc : w.cell? p = some v) : (loadVar ty p).run P w = .ok v w := by
  unfold plainT at hp
  cases hu : P.underlying ty with
  | none => rw [hu] at hp; cases hp
  | some d =>
    rw [hu] at hp
    cases d <;> first | (cases hp; done) | simp [loadVar, isAgg, run_underlying hu, Sem.run_bind, Result.andThen, hc]
section
variable {P : Program} {S : World → Prop} {ρ : Operand → Value} {o : Oper}
theorem y_load {ty : TypeId} {x : Operand} {p : Addr} {v : Value} (ho : o.op = .load ty x) (hx : ρ x = .pointer (some p)) (hp : plainT P ty = true) (hc : ∀ w, S w → w.cell? p = some v) : ∀ w, S w → (execOp ρ o).run P w = .ok (.value v) w := fun w hw => by
  simp only [execOp, ho, hx, Instr.loadAt, Instr.sureAddr, Sem.run_bind, Sem.run_pure, Result.andThen_ok, run_loadVar_cell ty p w v hp (hc w hw)]
end
theorem op_store_RowL {P : Program} {ops : Array Oper} {Q : Exit → Act → World → Prop} (i : Nat) (d : Option Tmp) {o : Oper} {a : Act} {w : World} {K : Act → World → Prop} (ty : TypeId) {x y : Operand} (g : Nat) (t : TypeId) (k : IntKind) (old zs : List Int) (hi : ops[i]? = some o) (hd : o.dst = d) (hw : Region.wanted o (yielded ops a.tmps) = true)
    (ho : o.op = .store ty x y) (hx : a.eval x = .pointer (some ⟨g, 0, none⟩)) (hy : a.eval y = .agg (Mem.arr k zs)) (hrow : Mem.Row w g t k old) (n : Nat) (hsz : (P.info? ty).map (·.size) = some n) (hn : zs.length = n) (ho' : old.length = n) (hwf : ∀ z ∈ zs, (Lit.int k z).wf = true)
    (h : ∀ w', Mem.Row w' g t k zs → w.grownBy w' (some g) → K (a.put d undef) w') : wpOp P ops Q i K a w :=
  op_store_Row i d ty g t k old zs hi hd hw ho hx hy hrow n hsz hn ho' (h _ (hrow.setRow hwf) (Mem.grown_setRow _ _ _))
theorem ints_of_vals {w : World} {B : Nat} {A : Option Addr} {n : Nat} {k : IntKind} {zs : List Int} (h : Mem.Vals w B A n (zs.map (Value.int k))) (hwf : ∀ z ∈ zs, (Lit.int k z).wf = true) : Mem.Ints w k B A n zs :=
  ⟨by simpa using h.1, hwf, fun h0 => by
    obtain ⟨b, off, e, hb, hc⟩ := h.2.2 h0
    refine ⟨b, off, e, hb, fun i hi => ?_⟩
    have hl : i < zs.length := by have := h.1; simp at this; omega
    rw [hc i hi]
    simp [List.getD_eq_getElem?_getD, hl]⟩
end Go.Proofs.YtjelacblnjbfgaaGreatDoor.Held
namespace Go.Proofs.YtjelacblnjbfgaaGreatDoor.Hkdf
open Go.RowKit Go.Shelf Go.Proofs.YtjelacblnjbfgaaGreatDoor Mem Help Go.Proofs.YtjelacblnjbfgaaGreatDoor.Sum Sha Mac Go.Proofs.YtjelacblnjbfgaaGreatDoor.Range
attribute [local go_sem] Oper.semAt_some
def piece (key info : List Int) : Nat → List Int
  | 0 => []
  | i + 1 => tag key (piece key info i ++ (info ++ [(i : Int) + 1]))
def stream (key info : List Int) (k : Nat) : List Int := (List.range k).flatMap fun i => piece key info (i + 1)
def out (key info : List Int) (n : Nat) : List Int := (stream key info 255).take n
theorem piece_length (key info : List Int) (i : Nat) : (piece key info (i + 1)).length = 32 := tag_length _ _
theorem piece_bytes (key info : List Int) : ∀ i, Bs (piece key info i)
  | 0 => fun z hz => by cases hz
  | i + 1 => tag_bytes _ _
theorem piece_wf (key info : List Int) (i : Nat) : ∀ z ∈ piece key info i, (Lit.int .u8 z).wf = true := fun z hz => wf_of_byte (piece_bytes key info i z hz)
theorem piece_le (key info : List Int) : ∀ i, (piece key info i).length ≤ 32
  | 0 => by simp [piece]
  | i + 1 => by rw [piece_length]; omega
theorem stream_succ (key info : List Int) (k : Nat) : stream key info (k + 1) = stream key info k ++ piece key info (k + 1) := by simp [stream, List.range_succ, List.flatMap_append]
theorem stream_length (key info : List Int) : ∀ k, (stream key info k).length = 32 * k
  | 0 => rfl
  | k + 1 => by rw [stream_succ, List.length_append, stream_length key info k, piece_length]; omega
theorem stream_bytes (key info : List Int) (k : Nat) : Bs (stream key info k) := fun z hz => by
  obtain ⟨i, _, h⟩ := List.mem_flatMap.1 hz
  exact piece_bytes key info (i + 1) z h
theorem stream_more (key info : List Int) (k : Nat) : ∀ d, ∃ r, stream key info (k + d) = stream key info k ++ r
  | 0 => ⟨[], by simp⟩
  | d + 1 => by
    obtain ⟨r, h⟩ := stream_more key info k d
    exact ⟨r ++ piece key info (k + d + 1), by rw [← Nat.add_assoc, stream_succ, h, List.append_assoc]⟩
theorem out_length (key info : List Int) (n : Nat) (h : n ≤ 8160) : (out key info n).length = n := by rw [out, List.length_take, stream_length]; omega
theorem out_bytes (key info : List Int) (n : Nat) : Bs (out key info n) := fun z hz => stream_bytes key info 255 z (List.mem_of_mem_take hz)
theorem out_wf (key info : List Int) (n : Nat) : ∀ z ∈ out key info n, (Lit.int .u8 z).wf = true := fun z hz => wf_of_byte (out_bytes key info n z hz)
theorem out_zero (key info : List Int) : out key info 0 = [] := by simp [out]
theorem out_whole (key info : List Int) (k : Nat) (hk : k ≤ 255) : out key info (32 * k) = stream key info k := by
  obtain ⟨r, h⟩ := stream_more key info k (255 - k)
  rw [show k + (255 - k) = 255 by omega] at h
  rw [out, h, List.take_left' (stream_length _ _ _)]
theorem out_step (key info : List Int) (k j : Nat) (hk : k < 255) (hj : j ≤ 32) : out key info (32 * k) ++ (piece key info (k + 1)).take j = out key info (32 * k + j) := by
  obtain ⟨r, h⟩ := stream_more key info (k + 1) (255 - (k + 1))
  rw [show k + 1 + (255 - (k + 1)) = 255 by omega, stream_succ key info k, List.append_assoc] at h
  have hl := stream_length key info k
  have hp := piece_length key info k
  generalize piece key info (k + 1) = p at h hp ⊢
  rw [out_whole key info k (by omega), out, h]
  generalize stream key info k = s at hl ⊢
  rw [List.take_append, hl, List.take_of_length_le (l := s) (by omega), show 32 * k + j - 32 * k = j by omega, List.take_append_of_le_length (by omega)]
theorem out_take (key info : List Int) (m n : Nat) (h : m ≤ n) : (out key info n).take m = out key info m := by rw [out, out, List.take_take, Nat.min_eq_left h]
attribute [irreducible] out stream
theorem follow_any (key : List Int) (hkb : ∀ z ∈ key, (Lit.int .u8 z).wf = true) (A : Option Addr) (m c : Nat) (w : World) :
    Calls Tryz.prog 105 #[.agg (arr .u8 key), .slice A m c] w fun e w' => e = .returned (.func (.func 111) #[] #[.pointer (some ⟨w.heap.size, 0, none⟩), .pointer (some ⟨w.heap.size + 1, 0, none⟩)]) ∧
      Row w' w.heap.size 22 .u8 key ∧ w'.cell? ⟨w.heap.size + 1, 0, none⟩ = some (.slice A m c) ∧ Below w.heap.size w w' ∧ Hid (w'.heap.size = w.heap.size + 2) := by
  go_enter Tryz.func105, Tryz.ntmps105
  go_wp2_with (refine wpList_box_Row rfl 22 _ rfl .u8 key rfl hkb ?_; intro w1 r1 g1 z1)
  obtain ⟨q, hq⟩ : ∃ q, w1.heap.size = q := ⟨_, rfl⟩
  have hqw := z1.out
  rw [hq] at hqw ⊢
  have b1 : Below w.heap.size w w1 := (Below.refl _ w).grown g1 (Nat.le_refl _) (by simp)
  go_ret
  refine ⟨by rw [← hqw]; rfl, r1.alloc _, ?_, b1.alloc b1.size _, Lib.hid (by simp; omega)⟩
  rw [← hqw, World.cell?_alloc_at _ _ _ _ hq.symm]
  rfl
theorem _root_.Go.Proofs.YtjelacblnjbfgaaGreatDoor.Mem.IntsN.below {S : Nat → Prop} {w w' : World} {k : IntKind} {A : Option Addr} {n : Nat} {zs : List Int} (h : IntsN w k S A n zs) (hb : Below w.heap.size w w') : IntsN w' k S A n zs :=
  ⟨h.1, h.2.1, fun hn => by
    obtain ⟨b, off, e, hS, hc⟩ := h.2.2 hn
    exact ⟨b, off, e, hS, fun i hi => (hb.cell (p := ⟨b, off + i, none⟩) (World.block_lt_of_cell? w _ (hc i hi))).trans (hc i hi)⟩⟩
theorem nextI {S : Nat → Prop} {w : World} {g : Nat} {t : TypeId} {key info : List Int} {k : Nat} (h : Row w g t .u8 (piece key info (k + 1))) (hg : ¬ S g) : IntsN w .u8 S (some ⟨g, 0, none⟩) 32 (piece key info (k + 1)) := by
  have := IntsN.row h hg
  rwa [piece_length] at this
set_option maxRecDepth 100000 in
set_option maxHeartbeats 8000000 in
theorem follow_stop (n xk xi : Nat) (S : Nat → Prop) (key info : List Int) (A : Option Addr) (m c : Nat) (w : World) (h1 : Row w xk 22 .u8 key) (hk : key.length = 32) (h2 : w.cell? ⟨xi, 0, none⟩ = some (.slice A m c)) (hS1 : ¬ S xk) (hS2 : ¬ S xi)
    (hi : IntsN w .u8 S A m info) (hmc : m ≤ c) (hcm : c ≤ maxLen) (hm : m ≤ 274877906944) (hSlt : ∀ b, S b → b < w.heap.size) (ht0 : Tab w 2 Sum.H0) (ht1 : Tab w 3 Sum.K) (hg0 : ¬ S 2) (hg1 : ¬ S 3) :
    SeqStop Fence.wide n Tryz.prog 111 #[.pointer (some ⟨xk, 0, none⟩), .pointer (some ⟨xi, 0, none⟩)] (fun x => #[.agg (arr .u8 x)]) (Only S) (fun k => if k < 255 then some (piece key info (k + 1)) else none) w := by
  intro l J Jx N W hW hJ hJx hN hY h0
  have k1 := h1.below hW h1.lt
  have k2 := (hW.cell (p := ⟨xi, 0, none⟩) (World.block_lt_of_cell? w _ h2)).trans h2
  have kv := hi.below hW
  have u0 := ht0.below hW ht0.lt
  have u1 := ht1.below hW ht1.lt
  have hsz := hW.size
  have hSlt : ∀ b, S b → b < W.heap.size := fun b h => by have := hSlt b h; omega
  have HL := Lib.hid hi.1
  have HK := Lib.hid hk
  clear h1 h2 hi ht0 ht1 hW hk
  refine callsIn_of_wp Tryz.func111 rfl trivial ?_ rfl
  simp only [Tryz.ntmps111, List.size_toArray, List.length_cons, List.length_nil, Nat.reduceAdd, Nat.reduceSub, Array.replicate_succ, Array.replicate_zero, List.push_toArray, List.append_toArray, List.nil_append, List.cons_append]
  gi_wp2_with fail
  gi_loopw [4, 7] (fun v i wr => ∃ (k : Nat) (A4 : Option Addr) (n4 c4 : Nat), k ≤ 255 ∧ i = .int .i64 k ∧ v = .slice A4 n4 c4 ∧ n4 ≤ c4 ∧ c4 ≤ maxLen ∧ n4 ≤ 32 ∧ IntsN wr .u8 S A4 n4 (piece key info k) ∧ J k wr ∧ Only S W wr) (fun _ i _ => 255 - (intOf i).toNat)
  case atStart => exact ⟨0, none, 0, 0, by omega, rfl, rfl, by omega, by simp [maxLen], by omega, ⟨rfl, by simp [piece], fun h => absurd h (by omega)⟩, h0, Only.refl _ _⟩
  case round =>
    obtain ⟨k, A4, n4, c4, hk, rfl, rfl, h4, h4m, hn4, hi4, Jk, ok⟩ := hrel
    by_cases hlt255 : k < 255
    · have q1 := ok.row hS1 k1
      have q2 := ok.cell (p := ⟨xi, 0, none⟩) hS2 k2
      have qi := (kv.only ok).ints
      have kq := q1.ints (n := 32) (by rw [HK.out]; omega)
      rw [List.take_of_length_le (by rw [HK.out]; omega)] at kq
      have i4 := hi4.ints
      have hT0 := u0.only ok hg0
      have hT1 := u1.only ok hg1
      have lb2 : xi < wr.heap.size := by have := World.block_lt_of_cell? wr _ q2; simpa using this
      have hsw := ok.size
      have HX := Lib.hid (show tag key [piece key info k, info, [(k : Int) + 1]].flatten = piece key info (k + 1) by simp [piece])
      have HLEN := Lib.hid (show [piece key info k, info, [(k : Int) + 1]].flatten.length ≤ 549755813888 by simp [HL.out]; have := piece_le key info k; omega)
      have hlt' : (k : Int) < 255 := by omega
      have hk0 : (0 : Int) ≤ (k : Int) := by omega
      have hw4 : IntKind.i64.wrap ((k : Int) + 1) = (k : Int) + 1 := by simp [IntKind.wrap, IntKind.bits, IntKind.signed]; omega
      have hw5 : IntKind.u8.wrap ((k : Int) + 1) = (k : Int) + 1 := by simp [IntKind.wrap, IntKind.bits, IntKind.signed]; omega
      have hw6 : (Lit.int .u8 ((k : Int) + 1)).wf = true := wf_of_byte (by omega)
      gi_wp2_with fail
      refine Held.wpIn_region_heldR (r := none) (S := fun W => Below wr.heap.size wr W) rfl (by kernel_rfl) (by kernel_rfl) (fun a w h => by obtain ⟨⟨v, e⟩, _⟩ := h; cases e) ?_
      change wpAnyH _ _ _ _ _ _ _ _ wr.drew
      have c0_0 := (Below.refl wr.heap.size wr).drew
      refine Held.tk (v := .slice (some ⟨xk, 0, none⟩) 32 32) 0 (some 10) rfl (Held.y_slice rfl (fun W => run_slice_arr_all (P := Tryz.prog) 22 5 32 xk W Tryz.underlying22 (by kernel_rfl) (by omega))) c0_0 ?_
      simp only [Act.put, Z1, Z2, Z3]
      refine Held.tk (v := .slice A4 n4 c4) 1 (some 11) rfl (Held.y_move rfl rfl) c0_0 ?_
      simp only [Act.put, Z1, Z2, Z3]
      refine Held.tk (v := .slice A m c) 2 (some 12) rfl (Held.y_load rfl rfl (by kernel_rfl) (fun W h => (h.cell (p := ⟨xi, 0, none⟩) lb2).trans q2)) c0_0 ?_
      simp only [Act.put, Z1, Z2, Z3]
      refine Held.tk (v := .int .i64 (k : Int)) 3 (some 13) rfl (Held.y_move rfl rfl) c0_0 ?_
      simp only [Act.put, Z1, Z2, Z3]
      refine Held.tk (v := .int .i64 ((k : Int) + 1)) 4 (some 14) rfl (Held.y_int rfl rfl rfl (Held.run_add 3 .i64 hw4)) c0_0 ?_
      simp only [Act.put, Z1, Z2, Z3]
      refine Held.tk (v := .int .u8 ((k : Int) + 1)) 5 (some 15) rfl (Held.y_convert rfl rfl (by kernel_rfl) Tryz.underlying5 hw5) c0_0 ?_
      simp only [Act.put, Z1, Z2, Z3]
      refine Held.two 6 9 (by kernel_rfl) ?_ ?_
      · refine Held.op_build 6 (some 16) 27 5 1 (.int .u8 0) 1 [.int .u8 ((k : Int) + 1)] rfl rfl rfl rfl Tryz.underlying27 info_u8 (by simp [Act.eval]) (by simp [Value.cells]) (by simp [Value.oneCell']) rfl (by omega) (by omega) ?_
        intro p6 w1 v6 b1
        have c0_1 := c0_0.trans (b1.mono c0_0.size)
        have c1_1 := Below.refl w1.heap.size w1
        refine ⟨c0_1, ?_⟩
        simp only [Act.put, Z1, Z2, Z3]
        refine Held.two 7 9 (by kernel_rfl) ?_ ?_
        · refine Held.op_build 7 (some 17) 89 27 3 (.slice none 0 0) 24 [.slice A4 n4 c4, .slice A m c, .slice (some ⟨p6, 0, none⟩) 1 1] rfl rfl rfl rfl Tryz.underlying89 info_bytes (by simp [Act.eval]) (by simp [Value.cells]) (by simp [Value.oneCell']) rfl (by omega) (by omega) ?_
          intro p7 w2 v7 b2
          have c0_2 := c0_1.trans (b2.mono c0_1.size)
          have c1_2 := b2
          have c2_2 := Below.refl w2.heap.size w2
          have T7 := (Texts.one ((i4.below c0_2).more c0_2.size) h4 h4m).cons ((Texts.one ((qi.below c0_2).more c0_2.size) hmc hcm).cons (Texts.one (((Held.ints_of_vals (zs := [(k : Int) + 1]) v6 (by simpa using hw6)).below c1_2).more c1_2.size) (Nat.le_refl 1) (by simp [maxLen])))
          refine ⟨c0_2, ?_⟩
          simp only [Act.put, Z1, Z2, Z3]
          refine Held.two 8 9 (by kernel_rfl) ?_ ?_
          · refine Held.op_call 8 (some 18) 106 #[.slice (some ⟨xk, 0, none⟩) 32 32, .slice (some ⟨p7, 0, none⟩) 3 3] rfl rfl rfl rfl (enters_of Tryz.func106 (by kernel_rfl) rfl) (by simp [Act.eval])
              (tag_any _ _ _ _ 32 32 3 3 key _ [piece key info k, info, [(k : Int) + 1]] _ (kq.below c0_2) (Nat.le_refl 32) (by simp [maxLen]) (by omega) (v7.below c2_2) (T7.below c2_2) c0_2.size c2_2.size (by omega) HLEN.out (hT0.below c0_2 hT0.lt) (hT1.below c0_2 hT1.lt)) ?_
            rw [HX.out]
            rintro e w3 ⟨rfl, b3⟩
            have c0_3 := c0_2.trans (b3.mono c0_2.size)
            have c1_3 := c1_2.trans (b3.mono c1_2.size)
            have c2_3 := b3
            refine ⟨_, rfl, c0_3, ?_⟩
            simp only [Act.put, Z1, Z2, Z3]
            refine Held.one 9 (by kernel_rfl) ?_
            refine Held.op_alloc_Row 9 (some 6) 22 .u8 32 rfl rfl rfl rfl zero_32 ?_
            intro p9 w4 r9 b4 h9
            have c0_4 := c0_3.trans (b4.mono c0_3.size)
            have c1_4 := c1_3.trans (b4.mono c1_3.size)
            have c2_4 := c2_3.trans (b4.mono c2_3.size)
            have c4_4 := Below.refl w4.heap.size w4
            have q9 := Nat.le_trans c0_3.size h9.out
            refine ⟨c0_4, ?_⟩
            simp only [Act.put, Z1, Z2, Z3]
            refine Held.one 10 (by kernel_rfl) ?_
            refine Held.op_store_RowL 10 none 22 p9 22 .u8 _ (piece key info (k + 1)) rfl rfl rfl rfl rfl rfl (r9.below c4_4 r9.lt) 32 info_32 (piece_length _ _ _) (by simp) (piece_wf _ _ _) ?_
            intro w5 r10 g10
            have c0_5 := c0_4.grown g10 c0_4.size (fun r e => by have := h9.out; have := c0_3.size; cases e; omega)
            refine ⟨c0_5, ?_⟩
            simp only [Act.put]
            refine wpAnyH_done (by kernel_rfl) ?_ _
            have J9 := hJ k wr w5 none Jk (grown_of_below c0_5 none) (fun r e => by cases e)
            have o9 : Only S wr w5 := Only.of_below c0_5
            obtain ⟨fn, tmps, assign, body, hy, hR⟩ := hY k (piece key info (k + 1)) w5 J9 (by simp [hlt255])
            have r9' := r10
            gi_wp2_with (refine wpListIn_load_Row rfl 22 _ rfl p9 rfl 22 .u8 _ r10 32 5 Tryz.underlying22 info_32 (piece_length _ _ _) ?_)
            refine ⟨fun h => (by cases h), ?_⟩
            refine hR.mono ?_
            rintro e W4 (⟨rfl, J4, o4⟩ | ⟨rfl, Jx4⟩)
            · have hp9 : ¬ S p9 := fun e => by have := hSlt p9 e; omega
              have r4 := o4.row hp9 r10
              gi_wp2_with fail
              go_roundw
              case rel => exact ⟨k + 1, _, 32, 32, by omega, by go_num, rfl, by omega, by simp [maxLen], by omega, nextI r4 hp9, J4, (ok.trans o9).trans o4⟩
              case measure => simp [intOf]; omega
            · gi_wp2_with fail
              exact bodyPost_ret (results_none rfl _ _ _) rfl ⟨⟨_, rfl⟩, .inr ⟨_, Jx4⟩⟩
          · refine Held.op_alloc_Row 9 (some 6) 22 .u8 32 rfl rfl rfl rfl zero_32 ?_
            intro p9 w3 r9 b3 h9
            have c0_3 := c0_2.trans (b3.mono c0_2.size)
            have c1_3 := c1_2.trans (b3.mono c1_2.size)
            have c2_3 := b3
            have c3_3 := Below.refl w3.heap.size w3
            have q9 := Nat.le_trans c0_2.size h9.out
            refine ⟨c0_3, ?_⟩
            simp only [Act.put, Z1, Z2, Z3]
            refine Held.one 8 (by kernel_rfl) ?_
            refine Held.op_call 8 (some 18) 106 #[.slice (some ⟨xk, 0, none⟩) 32 32, .slice (some ⟨p7, 0, none⟩) 3 3] rfl rfl rfl rfl (enters_of Tryz.func106 (by kernel_rfl) rfl) (by simp [Act.eval])
              (tag_any _ _ _ _ 32 32 3 3 key _ [piece key info k, info, [(k : Int) + 1]] _ (kq.below c0_3) (Nat.le_refl 32) (by simp [maxLen]) (by omega) (v7.below c2_3) (T7.below c2_3) c0_3.size c2_3.size (by omega) HLEN.out (hT0.below c0_3 hT0.lt) (hT1.below c0_3 hT1.lt)) ?_
            rw [HX.out]
            rintro e w4 ⟨rfl, b4⟩
            have c0_4 := c0_3.trans (b4.mono c0_3.size)
            have c1_4 := c1_3.trans (b4.mono c1_3.size)
            have c2_4 := c2_3.trans (b4.mono c2_3.size)
            have c3_4 := b4
            refine ⟨_, rfl, c0_4, ?_⟩
            simp only [Act.put, Z1, Z2, Z3]
            refine Held.one 10 (by kernel_rfl) ?_
            refine Held.op_store_RowL 10 none 22 p9 22 .u8 _ (piece key info (k + 1)) rfl rfl rfl rfl rfl rfl (r9.below c3_4 r9.lt) 32 info_32 (piece_length _ _ _) (by simp) (piece_wf _ _ _) ?_
            intro w5 r10 g10
            have c0_5 := c0_4.grown g10 c0_4.size (fun r e => by have := h9.out; have := c0_2.size; cases e; omega)
            refine ⟨c0_5, ?_⟩
            simp only [Act.put]
            refine wpAnyH_done (by kernel_rfl) ?_ _
            have J9 := hJ k wr w5 none Jk (grown_of_below c0_5 none) (fun r e => by cases e)
            have o9 : Only S wr w5 := Only.of_below c0_5
            obtain ⟨fn, tmps, assign, body, hy, hR⟩ := hY k (piece key info (k + 1)) w5 J9 (by simp [hlt255])
            have r9' := r10
            gi_wp2_with (refine wpListIn_load_Row rfl 22 _ rfl p9 rfl 22 .u8 _ r10 32 5 Tryz.underlying22 info_32 (piece_length _ _ _) ?_)
            refine ⟨fun h => (by cases h), ?_⟩
            refine hR.mono ?_
            rintro e W4 (⟨rfl, J4, o4⟩ | ⟨rfl, Jx4⟩)
            · have hp9 : ¬ S p9 := fun e => by have := hSlt p9 e; omega
              have r4 := o4.row hp9 r10
              gi_wp2_with fail
              go_roundw
              case rel => exact ⟨k + 1, _, 32, 32, by omega, by go_num, rfl, by omega, by simp [maxLen], by omega, nextI r4 hp9, J4, (ok.trans o9).trans o4⟩
              case measure => simp [intOf]; omega
            · gi_wp2_with fail
              exact bodyPost_ret (results_none rfl _ _ _) rfl ⟨⟨_, rfl⟩, .inr ⟨_, Jx4⟩⟩
        · refine Held.op_alloc_Row 9 (some 6) 22 .u8 32 rfl rfl rfl rfl zero_32 ?_
          intro p9 w2 r9 b2 h9
          have c0_2 := c0_1.trans (b2.mono c0_1.size)
          have c1_2 := b2
          have c2_2 := Below.refl w2.heap.size w2
          have q9 := Nat.le_trans c0_1.size h9.out
          refine ⟨c0_2, ?_⟩
          simp only [Act.put, Z1, Z2, Z3]
          refine Held.one 7 (by kernel_rfl) ?_
          refine Held.op_build 7 (some 17) 89 27 3 (.slice none 0 0) 24 [.slice A4 n4 c4, .slice A m c, .slice (some ⟨p6, 0, none⟩) 1 1] rfl rfl rfl rfl Tryz.underlying89 info_bytes (by simp [Act.eval]) (by simp [Value.cells]) (by simp [Value.oneCell']) rfl (by omega) (by omega) ?_
          intro p7 w3 v7 b3
          have c0_3 := c0_2.trans (b3.mono c0_2.size)
          have c1_3 := c1_2.trans (b3.mono c1_2.size)
          have c2_3 := b3
          have c3_3 := Below.refl w3.heap.size w3
          have T7 := (Texts.one ((i4.below c0_3).more c0_3.size) h4 h4m).cons ((Texts.one ((qi.below c0_3).more c0_3.size) hmc hcm).cons (Texts.one (((Held.ints_of_vals (zs := [(k : Int) + 1]) v6 (by simpa using hw6)).below c1_3).more c1_3.size) (Nat.le_refl 1) (by simp [maxLen])))
          refine ⟨c0_3, ?_⟩
          simp only [Act.put, Z1, Z2, Z3]
          refine Held.one 8 (by kernel_rfl) ?_
          refine Held.op_call 8 (some 18) 106 #[.slice (some ⟨xk, 0, none⟩) 32 32, .slice (some ⟨p7, 0, none⟩) 3 3] rfl rfl rfl rfl (enters_of Tryz.func106 (by kernel_rfl) rfl) (by simp [Act.eval])
            (tag_any _ _ _ _ 32 32 3 3 key _ [piece key info k, info, [(k : Int) + 1]] _ (kq.below c0_3) (Nat.le_refl 32) (by simp [maxLen]) (by omega) (v7.below c3_3) (T7.below c3_3) c0_3.size c3_3.size (by omega) HLEN.out (hT0.below c0_3 hT0.lt) (hT1.below c0_3 hT1.lt)) ?_
          rw [HX.out]
          rintro e w4 ⟨rfl, b4⟩
          have c0_4 := c0_3.trans (b4.mono c0_3.size)
          have c1_4 := c1_3.trans (b4.mono c1_3.size)
          have c2_4 := c2_3.trans (b4.mono c2_3.size)
          have c3_4 := b4
          refine ⟨_, rfl, c0_4, ?_⟩
          simp only [Act.put, Z1, Z2, Z3]
          refine Held.one 10 (by kernel_rfl) ?_
          refine Held.op_store_RowL 10 none 22 p9 22 .u8 _ (piece key info (k + 1)) rfl rfl rfl rfl rfl rfl (r9.below c2_4 r9.lt) 32 info_32 (piece_length _ _ _) (by simp) (piece_wf _ _ _) ?_
          intro w5 r10 g10
          have c0_5 := c0_4.grown g10 c0_4.size (fun r e => by have := h9.out; have := c0_1.size; cases e; omega)
          refine ⟨c0_5, ?_⟩
          simp only [Act.put]
          refine wpAnyH_done (by kernel_rfl) ?_ _
          have J9 := hJ k wr w5 none Jk (grown_of_below c0_5 none) (fun r e => by cases e)
          have o9 : Only S wr w5 := Only.of_below c0_5
          obtain ⟨fn, tmps, assign, body, hy, hR⟩ := hY k (piece key info (k + 1)) w5 J9 (by simp [hlt255])
          have r9' := r10
          gi_wp2_with (refine wpListIn_load_Row rfl 22 _ rfl p9 rfl 22 .u8 _ r10 32 5 Tryz.underlying22 info_32 (piece_length _ _ _) ?_)
          refine ⟨fun h => (by cases h), ?_⟩
          refine hR.mono ?_
          rintro e W4 (⟨rfl, J4, o4⟩ | ⟨rfl, Jx4⟩)
          · have hp9 : ¬ S p9 := fun e => by have := hSlt p9 e; omega
            have r4 := o4.row hp9 r10
            gi_wp2_with fail
            go_roundw
            case rel => exact ⟨k + 1, _, 32, 32, by omega, by go_num, rfl, by omega, by simp [maxLen], by omega, nextI r4 hp9, J4, (ok.trans o9).trans o4⟩
            case measure => simp [intOf]; omega
          · gi_wp2_with fail
            exact bodyPost_ret (results_none rfl _ _ _) rfl ⟨⟨_, rfl⟩, .inr ⟨_, Jx4⟩⟩
      · refine Held.op_alloc_Row 9 (some 6) 22 .u8 32 rfl rfl rfl rfl zero_32 ?_
        intro p9 w1 r9 b1 h9
        have c0_1 := c0_0.trans (b1.mono c0_0.size)
        have c1_1 := Below.refl w1.heap.size w1
        have q9 := Nat.le_trans c0_0.size h9.out
        refine ⟨c0_1, ?_⟩
        simp only [Act.put, Z1, Z2, Z3]
        refine Held.one 6 (by kernel_rfl) ?_
        refine Held.op_build 6 (some 16) 27 5 1 (.int .u8 0) 1 [.int .u8 ((k : Int) + 1)] rfl rfl rfl rfl Tryz.underlying27 info_u8 (by simp [Act.eval]) (by simp [Value.cells]) (by simp [Value.oneCell']) rfl (by omega) (by omega) ?_
        intro p6 w2 v6 b2
        have c0_2 := c0_1.trans (b2.mono c0_1.size)
        have c1_2 := b2
        have c2_2 := Below.refl w2.heap.size w2
        refine ⟨c0_2, ?_⟩
        simp only [Act.put, Z1, Z2, Z3]
        refine Held.one 7 (by kernel_rfl) ?_
        refine Held.op_build 7 (some 17) 89 27 3 (.slice none 0 0) 24 [.slice A4 n4 c4, .slice A m c, .slice (some ⟨p6, 0, none⟩) 1 1] rfl rfl rfl rfl Tryz.underlying89 info_bytes (by simp [Act.eval]) (by simp [Value.cells]) (by simp [Value.oneCell']) rfl (by omega) (by omega) ?_
        intro p7 w3 v7 b3
        have c0_3 := c0_2.trans (b3.mono c0_2.size)
        have c1_3 := c1_2.trans (b3.mono c1_2.size)
        have c2_3 := b3
        have c3_3 := Below.refl w3.heap.size w3
        have T7 := (Texts.one ((i4.below c0_3).more c0_3.size) h4 h4m).cons ((Texts.one ((qi.below c0_3).more c0_3.size) hmc hcm).cons (Texts.one (((Held.ints_of_vals (zs := [(k : Int) + 1]) v6 (by simpa using hw6)).below c2_3).more c2_3.size) (Nat.le_refl 1) (by simp [maxLen])))
        refine ⟨c0_3, ?_⟩
        simp only [Act.put, Z1, Z2, Z3]
        refine Held.one 8 (by kernel_rfl) ?_
        refine Held.op_call 8 (some 18) 106 #[.slice (some ⟨xk, 0, none⟩) 32 32, .slice (some ⟨p7, 0, none⟩) 3 3] rfl rfl rfl rfl (enters_of Tryz.func106 (by kernel_rfl) rfl) (by simp [Act.eval])
          (tag_any _ _ _ _ 32 32 3 3 key _ [piece key info k, info, [(k : Int) + 1]] _ (kq.below c0_3) (Nat.le_refl 32) (by simp [maxLen]) (by omega) (v7.below c3_3) (T7.below c3_3) c0_3.size c3_3.size (by omega) HLEN.out (hT0.below c0_3 hT0.lt) (hT1.below c0_3 hT1.lt)) ?_
        rw [HX.out]
        rintro e w4 ⟨rfl, b4⟩
        have c0_4 := c0_3.trans (b4.mono c0_3.size)
        have c1_4 := c1_3.trans (b4.mono c1_3.size)
        have c2_4 := c2_3.trans (b4.mono c2_3.size)
        have c3_4 := b4
        refine ⟨_, rfl, c0_4, ?_⟩
        simp only [Act.put, Z1, Z2, Z3]
        refine Held.one 10 (by kernel_rfl) ?_
        refine Held.op_store_RowL 10 none 22 p9 22 .u8 _ (piece key info (k + 1)) rfl rfl rfl rfl rfl rfl (r9.below c1_4 r9.lt) 32 info_32 (piece_length _ _ _) (by simp) (piece_wf _ _ _) ?_
        intro w5 r10 g10
        have c0_5 := c0_4.grown g10 c0_4.size (fun r e => by have := h9.out; have := c0_0.size; cases e; omega)
        refine ⟨c0_5, ?_⟩
        simp only [Act.put]
        refine wpAnyH_done (by kernel_rfl) ?_ _
        have J9 := hJ k wr w5 none Jk (grown_of_below c0_5 none) (fun r e => by cases e)
        have o9 : Only S wr w5 := Only.of_below c0_5
        obtain ⟨fn, tmps, assign, body, hy, hR⟩ := hY k (piece key info (k + 1)) w5 J9 (by simp [hlt255])
        have r9' := r10
        gi_wp2_with (refine wpListIn_load_Row rfl 22 _ rfl p9 rfl 22 .u8 _ r10 32 5 Tryz.underlying22 info_32 (piece_length _ _ _) ?_)
        refine ⟨fun h => (by cases h), ?_⟩
        refine hR.mono ?_
        rintro e W4 (⟨rfl, J4, o4⟩ | ⟨rfl, Jx4⟩)
        · have hp9 : ¬ S p9 := fun e => by have := hSlt p9 e; omega
          have r4 := o4.row hp9 r10
          gi_wp2_with fail
          go_roundw
          case rel => exact ⟨k + 1, _, 32, 32, by omega, by go_num, rfl, by omega, by simp [maxLen], by omega, nextI r4 hp9, J4, (ok.trans o9).trans o4⟩
          case measure => simp [intOf]; omega
        · gi_wp2_with fail
          exact bodyPost_ret (results_none rfl _ _ _) rfl ⟨⟨_, rfl⟩, .inr ⟨_, Jx4⟩⟩
    · have hk255 : k = 255 := by omega
      subst hk255
      gi_wp2_with fail
      go_end0
      exact ⟨⟨_, rfl⟩, .inl ⟨255, by simp, Jk⟩⟩
end Go.Proofs.YtjelacblnjbfgaaGreatDoor.Hkdf
