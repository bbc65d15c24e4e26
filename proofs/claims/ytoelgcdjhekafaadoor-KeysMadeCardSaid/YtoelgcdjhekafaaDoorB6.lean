/-
  A range over a function whose iterator keeps cells of its own, and whose body may leave early (or whose iterator never ends by itself): what the iterator is told of the rounds, counted, and what the loop owes: no program here. No conditions beyond those stated.
  Where every activation may run, what is shown of a region without a fence holds within a round, and within an iterator, too: no program here. No conditions beyond those stated.
  The pieces of package hkdf as plain functions, and the iterator over them by its contract. Conditions: what is said is at most 2^38 bytes; the two tables of package sha lie where the program's text lays them.
-/
import Derived.Test.YtoelgcdjhekafaaDoorB3
import Derived.Test.YtoelgcdjhekafaaDoorB5
import Derived.Test.YtoelgcdjhekafaaDoorB4
import Derived.OrdersIn
namespace Go.Proofs.YtoelgcdjhekafaaDoor.Range
open Go.RowKit
set_option linter.unusedVariables false

/-- the iterator hands out at_ 0, at_ 1, ..: till at_ has no more, or it is told to stop; Kp: what a round that goes on keeps; N: no round is come to from there on -/
def SeqStop {α : Type} (F : Fence) (n : Nat) (P : Program) (g : Nat) (lb : Array Value) (encs : α → Array Value) (Kp : World → World → Prop) (at_ : Nat → Option α) (w : World) : Prop :=
  ∀ (l : Nat) (J Jx : Nat → World → Prop) (N : Nat) (W : World), Below w.heap.size w W → Far W.heap.size J → Far W.heap.size Jx → (∀ k W1, J k W1 → k < N) →
    (∀ k x W1, J k W1 → at_ k = some x → YieldAt F (n - 1) P l (encs x) W1 fun e W' =>
      (e = .returned (.bool true) ∧ J (k + 1) W' ∧ Kp W1 W') ∨ (e = .returned (.bool false) ∧ Jx (k + 1) W')) →
    J 0 W → CallsIn F n P g (#[.func (.yield l) #[] #[]] ++ lb) W fun e W' => (∃ v, e = .returned v) ∧ ((∃ k, at_ k = none ∧ J k W') ∨ ∃ k, Jx k W')

theorem SeqStop.inRound {α : Type} {F : Fence} {n : Nat} {P : Program} {g : Nat} {lb : Array Value} {encs : α → Array Value} {Kp : World → World → Prop} {at_ : Nat → Option α} {w : World} (l : Nat)
    (h : SeqStop F n P g lb encs Kp at_ w) : SeqStop (F.inRound l) n P g lb encs Kp at_ w := h

/-- how a round's body ends: it goes on, or leaves by some jump -/
def stopPost (R : World → Prop) (X : Code → World → Prop) : Exit → Act → World → Prop
  | .normal, _, W' => R W'
  | .ret, _, W' => X .ret W'
  | .exit id, _, W' => X (.exit id) W'
  | .goto t, _, W' => X (.goto t) W'
  | _, _, _ => False

variable {F : Fence} {n : Nat} {P : Program}

theorem wpIn_rangeFunc_stop {α : Type} {g : Operand} {ps : Array Tmp} {assign body : Code} {Q : Exit → Act → World → Prop} {a : Act} {w : World}
    (hro : F.round = none) (h1 : 1 ≤ n) {gf : Nat} {lb : Array Value} (hg : a.eval g = .func (.func gf) #[] lb) (hFg : F.fn gf) (eg : ∀ args w, (callFunc gf args).run P w = .ok (.enter gf args) w)
    {encs : α → Array Value} {Kp : World → World → Prop} {at_ : Nat → Option α} {w0 : World} (hseq : SeqStop F (n - 1) P gf lb encs Kp at_ w0)
    (hKt : ∀ {A B C : World}, Kp A B → Kp B C → Kp A C) (hKb : ∀ (W : World) (l : Nat) (o o' : Obj), w.heap.size ≤ l → W.heap[l]? = some o → o.isCells = false → o.isWalk = false → Kp W (W.putObj l o'))
    (hb0 : Below w0.heap.size w0 w) (hps : ∀ x, (encs x).size = ps.size)
    (N : Nat) (I : Nat → World → Prop) (Ix : Code → Nat → World → Prop) (hI : Far w.heap.size I) (hIx : ∀ c, Far w.heap.size (Ix c)) (hN : ∀ k W, I k W → k < N) (h0 : I 0 w)
    (Ib : α → Act → Nat → World → Prop) (hIb : ∀ x a', OwnFrom w.heap.size (Ib x a'))
    (hassign : ∀ (l k : Nat) (x : α) (W : World) (K : Act → World → Prop), I k W → at_ k = some x → w.heap.size ≤ W.heap.size → (∀ a' W', KeepsOthers W W' → Kp W W' → Ib x a' k W' → K a' W') →
      assign.wpIn (F.inRound l) (n - 1 - 1) P (Exit.then K (fun _ _ _ => False)) { tmps := (ps.zip (encs x)).foldl (fun t (p, v) => t.setIfInBounds p v) a.tmps, defers := [] } W)
    (hbody : ∀ (l k : Nat) (x : α) (a' : Act) (W : World), w.heap.size ≤ l → (∃ r, W.heap[l]? = some (.loop r)) → Ib x a' k W → at_ k = some x → w.heap.size ≤ W.heap.size →
      body.wpIn (F.inRound l) (n - 1 - 1) P (stopPost (fun W' => KeepsOthers W W' ∧ Kp W W' ∧ I (k + 1) W') (fun c W' => KeepsOthers W W' ∧ Ix c (k + 1) W')) a' W)
    (hdone : ∀ (D k : Nat) (W : World), w.heap.size ≤ D → at_ k = none → I k W → W.heap[D]? = some (.deferred (some [])) → Q .normal { a with defers := { target := .collected D, args := #[] } :: a.defers } W)
    (hstop : ∀ (D : Nat) (c : Code) (k : Nat) (W : World), w.heap.size ≤ D → Ix c k W → W.heap[D]? = some (.deferred (some [])) → c.wpIn F n P Q { a with defers := { target := .collected D, args := #[] } :: a.defers } W) :
    (Code.rangeFunc g ps assign body).wpIn F n P Q a w := by
  refine wpIn_rangeFunc fun fn hfn => ?_
  rw [hro]
  let rec0 : LoopState → Option Code → Loop := fun st pe => { state := st, pending := pe, fn := fn, tmps := a.tmps, params := ps, assign := assign, body := body, defers := w.heap.size }
  let W1 : World := (w.alloc (.deferred (some []))).alloc (.loop (rec0 .ready none))
  have hz1 : W1.heap.size = w.heap.size + 2 := by simp [W1]
  have hl1 : W1.heap[w.heap.size + 1]? = some (.loop (rec0 .ready none)) := by
    have e := World.alloc_heap_new (w.alloc (.deferred (some []))) (.loop (rec0 .ready none))
    rwa [World.size_alloc] at e
  have hd1 : W1.heap[w.heap.size]? = some (.deferred (some [])) := (Below.heap_alloc _ _ _ (by simp)).trans (World.alloc_heap_new w _)
  have hi1 : I 0 W1 := hI.alloc _ (hI.alloc _ h0)
  have hb1 : Below w0.heap.size w0 W1 := hb0.trans ((((Below.refl _ w).alloc (Nat.le_refl _) _).alloc (by simp) _).mono hb0.size)
  refine ⟨w.heap.size + 1, [{ target := .collected w.heap.size, args := #[] }], W1, { target := .fn (.func gf) lb, args := #[.func (.yield (w.heap.size + 1)) #[] #[]] }, W1, gf,
    #[.func (.yield (w.heap.size + 1)) #[] #[]] ++ lb, W1, run_enterLoop_outer _ _ _ _ _, by simp only [resolve, hg]; simp [go_sem],
    fun f' hf' => by simp [Target.leads] at hf'; subst hf'; exact hFg, by simp [invoke, go_sem, eg], fun _ => h1, ?_⟩
  have kept : ∀ {A B : World} {row : Option Nat} (i : Nat) (o : Obj), i < W1.heap.size → A.heap[i]? = some o → A.grownBy B row → (∀ r, row = some r → W1.heap.size ≤ r) → B.heap[i]? = some o := by
    intro A B row i o hi ho hg' hr
    exact (hg'.block i (Array.getElem?_eq_some_iff.1 ho).1 (fun e => by have := hr i e.symm; omega)).trans ho
  refine (hseq (w.heap.size + 1) (fun k W => I k W ∧ W.heap[w.heap.size + 1]? = some (.loop (rec0 .ready none)) ∧ W.heap[w.heap.size]? = some (.deferred (some [])))
    (fun k W => ∃ c, Ix c k W ∧ W.heap[w.heap.size + 1]? = some (.loop (rec0 .done (some c))) ∧ W.heap[w.heap.size]? = some (.deferred (some []))) N W1 hb1
    (fun s A B row hs hg' hr => ⟨hI s A B row hs.1 hg' (fun r e => by have := hr r e; omega), kept _ _ (by omega) hs.2.1 hg' hr, kept _ _ (by omega) hs.2.2 hg' hr⟩)
    (fun s A B row hs hg' hr => by
      obtain ⟨c, h1, h2, h3⟩ := hs
      exact ⟨c, hIx c s A B row h1 hg' (fun r e => by have := hr r e; omega), kept _ _ (by omega) h2 hg' hr, kept _ _ (by omega) h3 hg' hr⟩)
    (fun k W h => hN k W h.1) ?_ ⟨hi1, hl1, hd1⟩).mono ?_
  · -- a round
    rintro k x W ⟨hi, hl, hd⟩ hat
    have hlt : w.heap.size + 1 < W.heap.size := (Array.getElem?_eq_some_iff.1 hl).1
    have hy := run_yield (P := P) (args := encs x) hl (hps x)
    refine ⟨fn, _, assign, body, hy, roundIn_of_wpIn hfn (hassign _ k x W _ hi hat (by omega) ?_)⟩
    intro a' W2 hk2 hp2 hib
    have hl2 := hk2.same _ _ hl rfl
    have hd2 := hk2.same _ _ hd rfl
    have hlt2 : w.heap.size + 1 < W2.heap.size := (Array.getElem?_eq_some_iff.1 hl2).1
    refine ⟨_, run_beginRound hl2 rfl, ?_⟩
    have hl3 : (W2.putObj (w.heap.size + 1) (.loop { rec0 .ready none with state := .busy })).heap[w.heap.size + 1]? = some (.loop { rec0 .ready none with state := .busy }) := World.putObj_heap_same hlt2
    have hd3 : (W2.putObj (w.heap.size + 1) (.loop { rec0 .ready none with state := .busy })).heap[w.heap.size]? = some (.deferred (some [])) := (World.putObj_heap_other (by omega)).trans hd2
    have hp3 : Kp W (W2.putObj (w.heap.size + 1) (.loop { rec0 .ready none with state := .busy })) := hKt hp2 (hKb _ _ _ _ (by omega) hl2 rfl rfl)
    refine wpIn_mono (hbody _ k x a' _ (by omega) ⟨_, hl3⟩ ((hIb x a').putObj _ hib (by omega) hl2 rfl) hat (by rw [World.putObj_size]; omega)) ?_
    intro e a3 W4 hp
    have fin : ∀ (jump : Code), KeepsOthers (W2.putObj (w.heap.size + 1) (.loop { rec0 .ready none with state := .busy })) W4 → Ix jump (k + 1) W4 →
        ∃ v w', (Instr.endRound (w.heap.size + 1) (some jump)).run P W4 = .ok v w' ∧ Ending.returned v = .returned (.bool false) ∧
          ∃ c, Ix c (k + 1) w' ∧ w'.heap[w.heap.size + 1]? = some (.loop (rec0 .done (some c))) ∧ w'.heap[w.heap.size]? = some (.deferred (some [])) := fun jump hk4 hi4 => by
      have hl4 := hk4.same _ _ hl3 rfl
      have hlt4 : w.heap.size + 1 < W4.heap.size := (Array.getElem?_eq_some_iff.1 hl4).1
      exact ⟨_, _, run_endRound (P := P) (some jump) hl4, rfl, jump, (hIx _).put _ hi4 (by omega), World.putObj_heap_same hlt4, (World.putObj_heap_other (by omega)).trans (hk4.same _ _ hd3 rfl)⟩
    cases e with
    | normal =>
      obtain ⟨hk4, hp4, hi4⟩ := hp
      have hl4 := hk4.same _ _ hl3 rfl
      have hlt4 : w.heap.size + 1 < W4.heap.size := (Array.getElem?_eq_some_iff.1 hl4).1
      refine ⟨_, _, run_endRound (P := P) none hl4, .inl ⟨rfl, ⟨hI.put _ hi4 (by omega), World.putObj_heap_same hlt4, (World.putObj_heap_other (by omega)).trans (hk4.same _ _ hd3 rfl)⟩, ?_⟩⟩
      exact hKt (hKt hp3 hp4) (hKb _ _ _ _ (by omega) hl4 rfl rfl)
    | ret => obtain ⟨v, w', hr, e1, e2⟩ := fin .ret hp.1 hp.2; exact ⟨v, w', hr, .inr ⟨e1, e2⟩⟩
    | exit id => obtain ⟨v, w', hr, e1, e2⟩ := fin (.exit id) hp.1 hp.2; exact ⟨v, w', hr, .inr ⟨e1, e2⟩⟩
    | goto t => obtain ⟨v, w', hr, e1, e2⟩ := fin (.goto t) hp.1 hp.2; exact ⟨v, w', hr, .inr ⟨e1, e2⟩⟩
    | panic ch => exact hp.elim
    | outgrown => exact hp.elim
  · -- behind the iterator
    rintro e W2 ⟨⟨v, rfl⟩, (⟨k, hk, hi, hl, hd⟩ | ⟨k, c, hi, hl, hd⟩)⟩
    · exact ⟨none, _, run_endLoop (P := P) hl (by simp [rec0]), hdone _ k _ (Nat.le_refl _) hk (hI.put _ hi (by omega)) ((World.putObj_heap_other (by omega)).trans hd)⟩
    · exact ⟨some c, _, run_endLoop (P := P) hl (by simp [rec0]), hstop _ c k _ (Nat.le_refl _) ((hIx c).put _ hi (by omega)) ((World.putObj_heap_other (by omega)).trans hd)⟩

/-- the same within a round of another loop, l₀ -/
theorem wpIn_rangeFunc_stopN {α : Type} {g : Operand} {ps : Array Tmp} {assign body : Code} {Q : Exit → Act → World → Prop} {a : Act} {w : World}
    {l₀ : Nat} {r₀ : Loop} (hro : F.round = some l₀) (hl₀ : w.heap[l₀]? = some (.loop r₀)) (h1 : 1 ≤ n) {gf : Nat} {lb : Array Value} (hg : a.eval g = .func (.func gf) #[] lb) (hFg : F.fn gf) (eg : ∀ args w, (callFunc gf args).run P w = .ok (.enter gf args) w)
    {encs : α → Array Value} {Kp : World → World → Prop} {at_ : Nat → Option α} {w0 : World} (hseq : SeqStop F (n - 1) P gf lb encs Kp at_ w0)
    (hKt : ∀ {A B C : World}, Kp A B → Kp B C → Kp A C) (hKb : ∀ (W : World) (l : Nat) (o o' : Obj), w.heap.size ≤ l → W.heap[l]? = some o → o.isCells = false → o.isWalk = false → Kp W (W.putObj l o'))
    (hb0 : Below w0.heap.size w0 w) (hps : ∀ x, (encs x).size = ps.size)
    (N : Nat) (I : Nat → World → Prop) (Ix : Code → Nat → World → Prop) (hI : Far w.heap.size I) (hIx : ∀ c, Far w.heap.size (Ix c)) (hN : ∀ k W, I k W → k < N) (h0 : I 0 w)
    (Ib : α → Act → Nat → World → Prop) (hIb : ∀ x a', OwnFrom w.heap.size (Ib x a'))
    (hassign : ∀ (l k : Nat) (x : α) (W : World) (K : Act → World → Prop), I k W → at_ k = some x → w.heap.size ≤ W.heap.size → (∀ a' W', KeepsOthers W W' → Kp W W' → Ib x a' k W' → K a' W') →
      assign.wpIn (F.inRound l) (n - 1 - 1) P (Exit.then K (fun _ _ _ => False)) { tmps := (ps.zip (encs x)).foldl (fun t (p, v) => t.setIfInBounds p v) a.tmps, defers := [] } W)
    (hbody : ∀ (l k : Nat) (x : α) (a' : Act) (W : World), w.heap.size ≤ l → (∃ r, W.heap[l]? = some (.loop r)) → Ib x a' k W → at_ k = some x → w.heap.size ≤ W.heap.size →
      body.wpIn (F.inRound l) (n - 1 - 1) P (stopPost (fun W' => KeepsOthers W W' ∧ Kp W W' ∧ I (k + 1) W') (fun c W' => KeepsOthers W W' ∧ Ix c (k + 1) W')) a' W)
    (hdone : ∀ (k : Nat) (W : World), at_ k = none → I k W → Q .normal a W)
    (hstop : ∀ (c : Code) (k : Nat) (W : World), Ix c k W → c.wpIn F n P Q a W) :
    (Code.rangeFunc g ps assign body).wpIn F n P Q a w := by
  refine wpIn_rangeFunc fun fn hfn => ?_
  rw [hro]
  let rec0 : LoopState → Option Code → Loop := fun st pe => { state := st, pending := pe, fn := fn, tmps := a.tmps, params := ps, assign := assign, body := body, defers := r₀.defers }
  let W1 : World := w.alloc (.loop (rec0 .ready none))
  have hz1 : W1.heap.size = w.heap.size + 1 := by simp [W1]
  have hl1 : W1.heap[w.heap.size]? = some (.loop (rec0 .ready none)) := World.alloc_heap_new w _
  have hi1 : I 0 W1 := hI.alloc _ h0
  have hb1 : Below w0.heap.size w0 W1 := hb0.trans (((Below.refl _ w).alloc (Nat.le_refl _) _).mono hb0.size)
  refine ⟨w.heap.size, [], W1, { target := .fn (.func gf) lb, args := #[.func (.yield w.heap.size) #[] #[]] }, W1, gf,
    #[.func (.yield w.heap.size) #[] #[]] ++ lb, W1, run_enterLoop_inner hl₀ _ _ _ _ _, by simp only [resolve, hg]; simp [go_sem],
    fun f' hf' => by simp [Target.leads] at hf'; subst hf'; exact hFg, by simp [invoke, go_sem, eg], fun _ => h1, ?_⟩
  have kept : ∀ {A B : World} {row : Option Nat} (i : Nat) (o : Obj), i < W1.heap.size → A.heap[i]? = some o → A.grownBy B row → (∀ r, row = some r → W1.heap.size ≤ r) → B.heap[i]? = some o := by
    intro A B row i o hi ho hg' hr
    exact (hg'.block i (Array.getElem?_eq_some_iff.1 ho).1 (fun e => by have := hr i e.symm; omega)).trans ho
  refine (hseq w.heap.size (fun k W => I k W ∧ W.heap[w.heap.size]? = some (.loop (rec0 .ready none)))
    (fun k W => ∃ c, Ix c k W ∧ W.heap[w.heap.size]? = some (.loop (rec0 .done (some c)))) N W1 hb1
    (fun s A B row hs hg' hr => ⟨hI s A B row hs.1 hg' (fun r e => by have := hr r e; omega), kept _ _ (by omega) hs.2 hg' hr⟩)
    (fun s A B row hs hg' hr => by
      obtain ⟨c, h1, h2⟩ := hs
      exact ⟨c, hIx c s A B row h1 hg' (fun r e => by have := hr r e; omega), kept _ _ (by omega) h2 hg' hr⟩)
    (fun k W h => hN k W h.1) ?_ ⟨hi1, hl1⟩).mono ?_
  · rintro k x W ⟨hi, hl⟩ hat
    have hlt : w.heap.size < W.heap.size := (Array.getElem?_eq_some_iff.1 hl).1
    have hy := run_yield (P := P) (args := encs x) hl (hps x)
    refine ⟨fn, _, assign, body, hy, roundIn_of_wpIn hfn (hassign _ k x W _ hi hat (by omega) ?_)⟩
    intro a' W2 hk2 hp2 hib
    have hl2 := hk2.same _ _ hl rfl
    have hlt2 : w.heap.size < W2.heap.size := (Array.getElem?_eq_some_iff.1 hl2).1
    refine ⟨_, run_beginRound hl2 rfl, ?_⟩
    have hl3 : (W2.putObj w.heap.size (.loop { rec0 .ready none with state := .busy })).heap[w.heap.size]? = some (.loop { rec0 .ready none with state := .busy }) := World.putObj_heap_same hlt2
    have hp3 : Kp W (W2.putObj w.heap.size (.loop { rec0 .ready none with state := .busy })) := hKt hp2 (hKb _ _ _ _ (Nat.le_refl _) hl2 rfl rfl)
    refine wpIn_mono (hbody _ k x a' _ (Nat.le_refl _) ⟨_, hl3⟩ ((hIb x a').putObj _ hib (Nat.le_refl _) hl2 rfl) hat (by rw [World.putObj_size]; omega)) ?_
    intro e a3 W4 hp
    have fin : ∀ (jump : Code), KeepsOthers (W2.putObj w.heap.size (.loop { rec0 .ready none with state := .busy })) W4 → Ix jump (k + 1) W4 →
        ∃ v w', (Instr.endRound w.heap.size (some jump)).run P W4 = .ok v w' ∧ Ending.returned v = .returned (.bool false) ∧
          ∃ c, Ix c (k + 1) w' ∧ w'.heap[w.heap.size]? = some (.loop (rec0 .done (some c))) := fun jump hk4 hi4 => by
      have hl4 := hk4.same _ _ hl3 rfl
      have hlt4 : w.heap.size < W4.heap.size := (Array.getElem?_eq_some_iff.1 hl4).1
      exact ⟨_, _, run_endRound (P := P) (some jump) hl4, rfl, jump, (hIx _).put _ hi4 (Nat.le_refl _), World.putObj_heap_same hlt4⟩
    cases e with
    | normal =>
      obtain ⟨hk4, hp4, hi4⟩ := hp
      have hl4 := hk4.same _ _ hl3 rfl
      have hlt4 : w.heap.size < W4.heap.size := (Array.getElem?_eq_some_iff.1 hl4).1
      refine ⟨_, _, run_endRound (P := P) none hl4, .inl ⟨rfl, ⟨hI.put _ hi4 (Nat.le_refl _), World.putObj_heap_same hlt4⟩, ?_⟩⟩
      exact hKt (hKt hp3 hp4) (hKb _ _ _ _ (Nat.le_refl _) hl4 rfl rfl)
    | ret => obtain ⟨v, w', hr, e1, e2⟩ := fin .ret hp.1 hp.2; exact ⟨v, w', hr, .inr ⟨e1, e2⟩⟩
    | exit id => obtain ⟨v, w', hr, e1, e2⟩ := fin (.exit id) hp.1 hp.2; exact ⟨v, w', hr, .inr ⟨e1, e2⟩⟩
    | goto t => obtain ⟨v, w', hr, e1, e2⟩ := fin (.goto t) hp.1 hp.2; exact ⟨v, w', hr, .inr ⟨e1, e2⟩⟩
    | panic ch => exact hp.elim
    | outgrown => exact hp.elim
  · rintro e W2 ⟨⟨v, rfl⟩, (⟨k, hk, hi, hl⟩ | ⟨k, c, hi, hl⟩)⟩
    · exact ⟨none, _, run_endLoop (P := P) hl (by simp [rec0]), hdone k _ hk (hI.put _ hi (Nat.le_refl _))⟩
    · exact ⟨some c, _, run_endLoop (P := P) hl (by simp [rec0]), hstop c k _ ((hIx c).put _ hi (Nat.le_refl _))⟩
end Go.Proofs.YtoelgcdjhekafaaDoor.Range
namespace Go.Proofs.YtoelgcdjhekafaaDoor.Held
open Go.RowKit
set_option linter.unusedVariables false

/-- every activation may run; r: of which round -/
def wideR (r : Option Nat) : Fence := { Fence.wide with round := r }
theorem wideR_none : wideR none = Fence.wide := rfl
theorem wideR_some (l : Nat) : wideR (some l) = Fence.wide.inRound l := rfl

section
variable {P : Program} {ops : Array Oper} {Q : Exit → Act → World → Prop} {n : Nat} {r : Option Nat}
theorem calls_wideR {f : FuncId} {args : Array Value} {w : World} {R : Ending → World → Prop} (h : Calls P f args w R) : CallsIn (wideR r) n P f args w R :=
  (callsIn_wide (n := n)).2 h
theorem rows_wideR {row : String} {args : Array Value} {w : World} {R : Value → World → Prop} (h : Rows P row args w R) : RowsIn (wideR r) n P row args w R := fun c cs _ => by
  obtain ⟨v, w', hR, hs⟩ := h c cs
  exact ⟨v, w', hR, stepsIn_wide.2 hs⟩
theorem opIn_of_op {o : Oper} (ho : ∀ c, o.op ≠ .defer c) {K : Act → World → Prop} {a : Act} {w : World} (h : o.wp P a w K Q) : o.wpIn (wideR r) n P a w K Q := by
  refine ⟨fun _ _ => trivial, ?_⟩
  rw [Oper.semAt_plain (wideR r) _ _ ho]
  unfold Oper.wp at h
  generalize (execOp a.eval o).run P w = x at h
  cases x with
  | ok y w' =>
    cases y with
    | value v => exact h
    | skip => exact h
    | «defer» d => exact h
    | enter f args =>
      refine ⟨fun hd => absurd (show false = true from hd) (by simp), (calls_wideR (r := r) h).mono fun e w'' he => ?_⟩
      cases e <;> exact he
    | row row args => exact ⟨fun hd => absurd (show false = true from hd) (by simp), rows_wideR h⟩
    | _ => exact h.elim
  | halt y w' => cases y <;> exact h
def noDefer (ops : Array Oper) : Bool := ops.all fun o => match o.op with | .defer _ => false | _ => true
theorem noDefer_spec (h : noDefer ops = true) {i : Nat} {o : Oper} (hi : ops[i]? = some o) : ∀ c, o.op ≠ .defer c := by
  intro c e
  have hlt := (Array.getElem?_eq_some_iff.1 hi).1
  have := (Array.all_eq_true.1 h) i hlt
  rw [(Array.getElem?_eq_some_iff.1 hi).2, e] at this
  cases this
theorem opsIn_of_op (hd : noDefer ops = true) (hq : ∀ a w, ¬ Q .outgrown a w) {i : Nat} {K : Act → World → Prop} {a : Act} {w : World} (h : wpOp P ops Q i K a w) : wpOpIn (wideR r) n P ops Q i K a w := by
  unfold wpOp at h
  unfold wpOpIn
  cases hi : ops[i]? with
  | none => simpa only [hi] using h
  | some o =>
    simp only [hi] at h ⊢
    split
    · rename_i hw
      simp only [hw, if_true] at h
      rcases h with h | ⟨_, a', w', hl⟩
      · exact opIn_of_op (noDefer_spec hd hi) h
      · exact (hq _ _ hl).elim
    · rename_i hw
      simp only [hw] at h
      exact ⟨fun _ _ => trivial, h⟩
theorem anyIn_of_any {md : Region.Mode} (hd : noDefer ops = true) (hq : ∀ a w, ¬ Q .outgrown a w) : ∀ (fuel : Nat) (listed : Array Bool) (a : Act) (w : World), wpAny P md ops Q fuel listed a w → wpAnyIn (wideR r) n P md ops Q fuel listed a w
  | 0, _, _, _, h => h
  | fuel + 1, _, _, _, h => ⟨h.1, fun i hi => wpOpIn_mono (fun a' w' h' => anyIn_of_any hd hq fuel _ a' w' h') (opsIn_of_op hd hq (h.2 i hi))⟩
theorem listIn_of_list (hd : noDefer ops = true) (hq : ∀ a w, ¬ Q .outgrown a w) : ∀ (l : List Oper) (a : Act) (w : World), (∀ o ∈ l, ∀ c, o.op ≠ .defer c) → wpList P ops Q l a w → wpListIn (wideR r) n P ops Q l a w
  | [], _, _, _, h => h
  | o :: rest, a, w, hl, h => by
    unfold wpList at h
    unfold wpListIn
    split
    · rename_i hw
      simp only [hw, if_true] at h
      rcases h with h | ⟨_, a', w', hx⟩
      · exact Oper.wpIn_mono (fun a' w' h' => listIn_of_list hd hq rest a' w' (fun o ho => hl o (List.mem_cons_of_mem _ ho)) h') (opIn_of_op (hl o List.mem_cons_self) h)
      · exact (hq _ _ hx).elim
    · rename_i hw
      simp only [hw] at h
      exact ⟨fun _ _ => trivial, listIn_of_list hd hq rest _ w (fun o ho => hl o (List.mem_cons_of_mem _ ho)) h⟩

/-- a region that draws its order, within a round or an iterator -/
theorem wpIn_region_heldR {F : Fence} (hF : F = wideR r) {S : World → Prop} {id : Nat} {a : Act} {w : World} (hm : P.follows .mixedOrders = true) (hd : noDefer ops = true) (hq : ∀ a w, ¬ Q .outgrown a w)
    (h : wpAnyH P .any ops Q S ops.size (Array.replicate ops.size false) a { w with drawn := w.drawn + 1 }) : (Code.region id ops true).wpIn F n P Q a w := by
  subst hF
  exact wpIn_region_any hm (anyIn_of_any hd hq _ _ _ _ (wpAny_of_held _ _ _ _ h))
/-- a region of one order, within a round or an iterator -/
theorem wpIn_region_plainR {F : Fence} (hF : F = wideR r) {id : Nat} {l : List Oper} {a : Act} {w : World} (hd : noDefer l.toArray = true) (hq : ∀ a w, ¬ Q .outgrown a w)
    (h : wpList P l.toArray Q l a w) : (Code.region id l.toArray false).wpIn F n P Q a w := by
  subst hF
  refine wpIn_region_lit (listIn_of_list hd hq l a w (fun o ho c e => ?_) h)
  obtain ⟨i, hi, rfl⟩ := List.mem_iff_getElem.1 ho
  exact noDefer_spec hd (i := i) (o := l[i]) (by simp [hi]) c e
end

section
variable {P : Program} {ops : Array Oper} {Q : Exit → Act → World → Prop} {S : World → Prop}
/-- a load, carried out -/
theorem op_load (i : Nat) (d : Option Tmp) {o : Oper} {a : Act} {w : World} {K : Act → World → Prop} (ty : TypeId) {x : Operand} (p : Addr) (v : Value) (hi : ops[i]? = some o) (hd : o.dst = d) (hw : Region.wanted o (yielded ops a.tmps) = true)
    (ho : o.op = .load ty x) (hx : a.eval x = .pointer (some p)) (hr : (loadVar ty p).run P w = .ok v w) (h : K (a.put d v) w) : wpOp P ops Q i K a w := by
  subst hd
  refine op_wp i hi hw ?_
  unfold Oper.wp execOp
  simp only [ho, hx, Instr.loadAt, Instr.sureAddr, Sem.run_bind, Sem.run_pure, Result.andThen_ok, hr]
  exact h
/-- a new array of zeros -/
theorem op_alloc_Row (i : Nat) (d : Option Tmp) {o : Oper} {a : Act} {w : World} {K : Act → World → Prop} (ty : TypeId) (k : IntKind) (m : Nat) (hi : ops[i]? = some o) (hd : o.dst = d) (hw : Region.wanted o (yielded ops a.tmps) = true)
    (ho : o.op = .alloc ty) (hz : (P.info? ty).bind (·.zero) = some (.agg (Mem.arr k (List.replicate m 0))))
    (h : ∀ g w', Mem.Row w' g ty k (List.replicate m 0) → Below w.heap.size w w' → Hid (w.heap.size ≤ g) → K (a.put d (.pointer (some ⟨g, 0, none⟩))) w') : wpOp P ops Q i K a w := by
  subst hd
  refine op_wp i hi hw ?_
  unfold Oper.wp execOp
  simp only [ho, Mem.run_alloc_arr ty k m hz, Sem.run_bind, Sem.run_pure, Result.andThen_ok]
  exact h _ _ (Mem.Row.new w ty (Mem.zeros_wf k m)) ((Below.refl _ w).alloc (Nat.le_refl _) _) (Lib.hid (Nat.le_refl _))
end
end Go.Proofs.YtoelgcdjhekafaaDoor.Held
namespace Go.Proofs.YtoelgcdjhekafaaDoor.Held
open Go.RowKit
/-- a type of one cell that is neither a struct nor an array -/
def plainT (P : Program) (ty : TypeId) : Bool := match P.underlying ty with | some (.struct _) => false | some (.array _ _) => false | some _ => true | none => false
theorem run_loadVar_cell {P : Program} (ty : TypeId) (p : Addr) (w : World) (v : Value) (hp : plainT P ty = true) (hc : w.cell? p = some v) : (loadVar ty p).run P w = .ok v w := by
  unfold plainT at hp
  cases hu : P.underlying ty with
  | none => rw [hu] at hp; cases hp
  | some d =>
    rw [hu] at hp
    cases d <;> first | (cases hp; done) | simp [loadVar, isAgg, run_underlying hu, Sem.run_bind, Result.andThen, hc]
section
variable {P : Program} {S : World → Prop} {ρ : Operand → Value} {o : Oper}
theorem y_load {ty : TypeId} {x : Operand} {p : Addr} {v : Value} (ho : o.op = .load ty x) (hx : ρ x = .pointer (some p)) (hp : plainT P ty = true) (hc : ∀ w, S w → w.cell? p = some v) : ∀ w, S w → (execOp ρ o).run P w = .ok (.value v) w := fun w hw => by
  simp only [execOp, ho, hx, Instr.loadAt, Instr.sureAddr, Sem.run_bind, Sem.run_pure, Result.andThen_ok, run_loadVar_cell ty p w v hp (hc w hw)]
end
/-- a whole array stored, the new world a letter -/
theorem op_store_RowL {P : Program} {ops : Array Oper} {Q : Exit → Act → World → Prop} (i : Nat) (d : Option Tmp) {o : Oper} {a : Act} {w : World} {K : Act → World → Prop} (ty : TypeId) {x y : Operand} (g : Nat) (t : TypeId) (k : IntKind) (old zs : List Int) (hi : ops[i]? = some o) (hd : o.dst = d) (hw : Region.wanted o (yielded ops a.tmps) = true)
    (ho : o.op = .store ty x y) (hx : a.eval x = .pointer (some ⟨g, 0, none⟩)) (hy : a.eval y = .agg (Mem.arr k zs)) (hrow : Mem.Row w g t k old) (n : Nat) (hsz : (P.info? ty).map (·.size) = some n) (hn : zs.length = n) (ho' : old.length = n) (hwf : ∀ z ∈ zs, (Lit.int k z).wf = true)
    (h : ∀ w', Mem.Row w' g t k zs → w.grownBy w' (some g) → K (a.put d undef) w') : wpOp P ops Q i K a w :=
  op_store_Row i d ty g t k old zs hi hd hw ho hx hy hrow n hsz hn ho' (h _ (hrow.setRow hwf) (Mem.grown_setRow _ _ _))
/-- numbers, as the values of a list -/
theorem ints_of_vals {w : World} {B : Nat} {A : Option Addr} {n : Nat} {k : IntKind} {zs : List Int} (h : Mem.Vals w B A n (zs.map (Value.int k))) (hwf : ∀ z ∈ zs, (Lit.int k z).wf = true) : Mem.Ints w k B A n zs :=
  ⟨by simpa using h.1, hwf, fun h0 => by
    obtain ⟨b, off, e, hb, hc⟩ := h.2.2 h0
    refine ⟨b, off, e, hb, fun i hi => ?_⟩
    have hl : i < zs.length := by have := h.1; simp at this; omega
    rw [hc i hi]
    simp [List.getD_eq_getElem?_getD, hl]⟩
end Go.Proofs.YtoelgcdjhekafaaDoor.Held
namespace Go.Proofs.YtoelgcdjhekafaaDoor.Hkdf
open Go.RowKit Go.Shelf Go.Proofs.YtoelgcdjhekafaaDoor.Mem Go.Proofs.YtoelgcdjhekafaaDoor.Help Go.Proofs.YtoelgcdjhekafaaDoor.Sum Go.Proofs.YtoelgcdjhekafaaDoor.Sha Go.Proofs.YtoelgcdjhekafaaDoor.Mac Go.Proofs.YtoelgcdjhekafaaDoor.Range Go.Proofs.YtoelgcdjhekafaaDoor
set_option linter.unusedVariables false
attribute [local go_sem] Oper.semAt_some

/-- the pieces: each of the one ahead of it, of what is said, and of its number -/
def piece (key info : List Int) : Nat → List Int
  | 0 => []
  | i + 1 => tag key (piece key info i ++ (info ++ [(i : Int) + 1]))
/-- the first k pieces, one behind the other -/
def stream (key info : List Int) (k : Nat) : List Int := (List.range k).flatMap fun i => piece key info (i + 1)
/-- the first n bytes -/
def out (key info : List Int) (n : Nat) : List Int := (stream key info 255).take n

theorem piece_length (key info : List Int) (i : Nat) : (piece key info (i + 1)).length = 32 := tag_length _ _
theorem piece_bytes (key info : List Int) : ∀ i, Bs (piece key info i)
  | 0 => fun z hz => by cases hz
  | i + 1 => tag_bytes _ _
theorem piece_wf (key info : List Int) (i : Nat) : ∀ z ∈ piece key info i, (Lit.int .u8 z).wf = true := fun z hz => wf_of_byte (piece_bytes key info i z hz)
theorem piece_le (key info : List Int) : ∀ i, (piece key info i).length ≤ 32
  | 0 => by simp [piece]
  | i + 1 => by rw [piece_length]; omega
theorem stream_succ (key info : List Int) (k : Nat) : stream key info (k + 1) = stream key info k ++ piece key info (k + 1) := by simp [stream, List.range_succ, List.flatMap_append]
theorem stream_length (key info : List Int) : ∀ k, (stream key info k).length = 32 * k
  | 0 => rfl
  | k + 1 => by rw [stream_succ, List.length_append, stream_length key info k, piece_length]; omega
theorem stream_bytes (key info : List Int) (k : Nat) : Bs (stream key info k) := fun z hz => by
  obtain ⟨i, _, h⟩ := List.mem_flatMap.1 hz
  exact piece_bytes key info (i + 1) z h
theorem stream_more (key info : List Int) (k : Nat) : ∀ d, ∃ r, stream key info (k + d) = stream key info k ++ r
  | 0 => ⟨[], by simp⟩
  | d + 1 => by
    obtain ⟨r, h⟩ := stream_more key info k d
    exact ⟨r ++ piece key info (k + d + 1), by rw [← Nat.add_assoc, stream_succ, h, List.append_assoc]⟩
theorem out_length (key info : List Int) (n : Nat) (h : n ≤ 8160) : (out key info n).length = n := by rw [out, List.length_take, stream_length]; omega
theorem out_bytes (key info : List Int) (n : Nat) : Bs (out key info n) := fun z hz => stream_bytes key info 255 z (List.mem_of_mem_take hz)
theorem out_wf (key info : List Int) (n : Nat) : ∀ z ∈ out key info n, (Lit.int .u8 z).wf = true := fun z hz => wf_of_byte (out_bytes key info n z hz)
theorem out_zero (key info : List Int) : out key info 0 = [] := by simp [out]
theorem out_whole (key info : List Int) (k : Nat) (hk : k ≤ 255) : out key info (32 * k) = stream key info k := by
  obtain ⟨r, h⟩ := stream_more key info k (255 - k)
  rw [show k + (255 - k) = 255 by omega] at h
  rw [out, h, List.take_left' (stream_length _ _ _)]
theorem out_step (key info : List Int) (k j : Nat) (hk : k < 255) (hj : j ≤ 32) : out key info (32 * k) ++ (piece key info (k + 1)).take j = out key info (32 * k + j) := by
  obtain ⟨r, h⟩ := stream_more key info (k + 1) (255 - (k + 1))
  rw [show k + 1 + (255 - (k + 1)) = 255 by omega, stream_succ key info k, List.append_assoc] at h
  have hl := stream_length key info k
  have hp := piece_length key info k
  generalize piece key info (k + 1) = p at h hp ⊢
  rw [out_whole key info k (by omega), out, h]
  generalize stream key info k = s at hl ⊢
  rw [List.take_append, hl, List.take_of_length_le (l := s) (by omega), show 32 * k + j - 32 * k = j by omega, List.take_append_of_le_length (by omega)]

theorem out_take (key info : List Int) (m n : Nat) (h : m ≤ n) : (out key info n).take m = out key info m := by rw [out, out, List.take_take, Nat.min_eq_left h]
theorem out_one (key info : List Int) : out key info 32 = tag key (info ++ [1]) := by
  have := out_whole key info 1 (by omega)
  rw [show 32 * 1 = 32 from rfl] at this
  rw [this]
  simp [stream, piece]
attribute [irreducible] out stream

theorem follow_any (key : List Int) (hkb : ∀ z ∈ key, (Lit.int .u8 z).wf = true) (A : Option Addr) (m c : Nat) (w : World) :
    Calls Tryd.prog 49 #[.agg (arr .u8 key), .slice A m c] w fun e w' => e = .returned (.func (.func 59) #[] #[.pointer (some ⟨w.heap.size, 0, none⟩), .pointer (some ⟨w.heap.size + 1, 0, none⟩)]) ∧
      Row w' w.heap.size 22 .u8 key ∧ w'.cell? ⟨w.heap.size + 1, 0, none⟩ = some (.slice A m c) ∧ Below w.heap.size w w' ∧ Hid (w'.heap.size = w.heap.size + 2) := by
  go_enter Tryd.func49, Tryd.ntmps49
  go_wp2_with (refine wpList_box_Row rfl 22 _ rfl .u8 key rfl hkb ?_; intro w1 r1 g1 z1)
  obtain ⟨q, hq⟩ : ∃ q, w1.heap.size = q := ⟨_, rfl⟩
  have hqw := z1.out
  rw [hq] at hqw ⊢
  have b1 : Below w.heap.size w w1 := (Below.refl _ w).grown g1 (Nat.le_refl _) (by simp)
  go_ret
  refine ⟨by rw [← hqw]; rfl, r1.alloc _, ?_, b1.alloc b1.size _, Lib.hid (by simp; omega)⟩
  rw [← hqw, World.cell?_alloc_at _ _ _ _ hq.symm]
  rfl

/-- numbers at a block that is none of S, as numbers below the heap's end -/
theorem _root_.Go.Proofs.YtoelgcdjhekafaaDoor.Mem.IntsN.ints {S : Nat → Prop} {w : World} {k : IntKind} {A : Option Addr} {n : Nat} {zs : List Int} (h : IntsN w k S A n zs) : Ints w k w.heap.size A n zs :=
  ⟨h.1, h.2.1, fun hn => by
    obtain ⟨b, off, e, _, hc⟩ := h.2.2 hn
    exact ⟨b, off, e, by have := World.block_lt_of_cell? w _ (hc 0 hn); simpa using this, hc⟩⟩
theorem _root_.Go.Proofs.YtoelgcdjhekafaaDoor.Mem.IntsN.below {S : Nat → Prop} {w w' : World} {k : IntKind} {A : Option Addr} {n : Nat} {zs : List Int} (h : IntsN w k S A n zs) (hb : Below w.heap.size w w') : IntsN w' k S A n zs :=
  ⟨h.1, h.2.1, fun hn => by
    obtain ⟨b, off, e, hS, hc⟩ := h.2.2 hn
    exact ⟨b, off, e, hS, fun i hi => (hb.cell (p := ⟨b, off + i, none⟩) (World.block_lt_of_cell? w _ (hc i hi))).trans (hc i hi)⟩⟩
theorem nextI {S : Nat → Prop} {w : World} {g : Nat} {t : TypeId} {key info : List Int} {k : Nat} (h : Row w g t .u8 (piece key info (k + 1))) (hg : ¬ S g) : IntsN w .u8 S (some ⟨g, 0, none⟩) 32 (piece key info (k + 1)) := by
  have := IntsN.row h hg
  rwa [piece_length] at this

set_option maxRecDepth 100000 in
set_option maxHeartbeats 8000000 in
theorem follow_stop (n xk xi : Nat) (S : Nat → Prop) (key info : List Int) (A : Option Addr) (m c : Nat) (w : World) (h1 : Row w xk 22 .u8 key) (hk : key.length = 32) (h2 : w.cell? ⟨xi, 0, none⟩ = some (.slice A m c)) (hS1 : ¬ S xk) (hS2 : ¬ S xi)
    (hi : IntsN w .u8 S A m info) (hmc : m ≤ c) (hcm : c ≤ maxLen) (hm : m ≤ 274877906944) (hSlt : ∀ b, S b → b < w.heap.size) (ht0 : Tab w 3 Sum.H0) (ht1 : Tab w 4 Sum.K) (hg0 : ¬ S 3) (hg1 : ¬ S 4) :
    SeqStop Fence.wide n Tryd.prog 59 #[.pointer (some ⟨xk, 0, none⟩), .pointer (some ⟨xi, 0, none⟩)] (fun x => #[.agg (arr .u8 x)]) (Only S) (fun k => if k < 255 then some (piece key info (k + 1)) else none) w := by
  intro l J Jx N W hW hJ hJx hN hY h0
  have k1 := h1.below hW h1.lt
  have k2 := (hW.cell (p := ⟨xi, 0, none⟩) (World.block_lt_of_cell? w _ h2)).trans h2
  have kv := hi.below hW
  have u0 := ht0.below hW ht0.lt
  have u1 := ht1.below hW ht1.lt
  have hsz := hW.size
  have hSlt : ∀ b, S b → b < W.heap.size := fun b h => by have := hSlt b h; omega
  have HL := Lib.hid hi.1
  have HK := Lib.hid hk
  clear h1 h2 hi ht0 ht1 hW hk
  refine callsIn_of_wp Tryd.func59 rfl trivial ?_ rfl
  simp only [Tryd.ntmps59, List.size_toArray, List.length_cons, List.length_nil, Nat.reduceAdd, Nat.reduceSub, Array.replicate_succ, Array.replicate_zero, List.push_toArray, List.append_toArray, List.nil_append, List.cons_append]
  gi_wp2_with fail
  gi_loopw [4, 7] (fun v i wr => ∃ (k : Nat) (A4 : Option Addr) (n4 c4 : Nat), k ≤ 255 ∧ i = .int .i64 k ∧ v = .slice A4 n4 c4 ∧ n4 ≤ c4 ∧ c4 ≤ maxLen ∧ n4 ≤ 32 ∧ IntsN wr .u8 S A4 n4 (piece key info k) ∧ J k wr ∧ Only S W wr) (fun _ i _ => 255 - (intOf i).toNat)
  case atStart => exact ⟨0, none, 0, 0, by omega, rfl, rfl, by omega, by simp [maxLen], by omega, ⟨rfl, by simp [piece], fun h => absurd h (by omega)⟩, h0, Only.refl _ _⟩
  case round =>
    obtain ⟨k, A4, n4, c4, hk, rfl, rfl, h4, h4m, hn4, hi4, Jk, ok⟩ := hrel
    by_cases hlt255 : k < 255
    · have q1 := ok.row hS1 k1
      have q2 := ok.cell (p := ⟨xi, 0, none⟩) hS2 k2
      have qi := (kv.only ok).ints
      have kq := q1.ints (n := 32) (by rw [HK.out]; omega)
      rw [List.take_of_length_le (by rw [HK.out]; omega)] at kq
      have i4 := hi4.ints
      have hT0 := u0.only ok hg0
      have hT1 := u1.only ok hg1
      have lb2 : xi < wr.heap.size := by have := World.block_lt_of_cell? wr _ q2; simpa using this
      have hsw := ok.size
      have HX := Lib.hid (show tag key [piece key info k, info, [(k : Int) + 1]].flatten = piece key info (k + 1) by simp [piece])
      have HLEN := Lib.hid (show [piece key info k, info, [(k : Int) + 1]].flatten.length ≤ 549755813888 by simp [HL.out]; have := piece_le key info k; omega)
      have hlt' : (k : Int) < 255 := by omega
      have hk0 : (0 : Int) ≤ (k : Int) := by omega
      have hw4 : IntKind.i64.wrap ((k : Int) + 1) = (k : Int) + 1 := by simp [IntKind.wrap, IntKind.bits, IntKind.signed]; omega
      have hw5 : IntKind.u8.wrap ((k : Int) + 1) = (k : Int) + 1 := by simp [IntKind.wrap, IntKind.bits, IntKind.signed]; omega
      have hw6 : (Lit.int .u8 ((k : Int) + 1)).wf = true := wf_of_byte (by omega)
      gi_wp2_with fail
      refine Held.wpIn_region_heldR (r := none) (S := fun W => Below wr.heap.size wr W) rfl (by kernel_rfl) (by kernel_rfl) (fun a w h => by obtain ⟨⟨v, e⟩, _⟩ := h; cases e) ?_
      change wpAnyH _ _ _ _ _ _ _ _ wr.drew
      have c0_0 := (Below.refl wr.heap.size wr).drew
      refine Held.take (v := .slice (some ⟨xk, 0, none⟩) 32 32) 0 (some 10) rfl rfl (by kernel_rfl) (by kernel_rfl) (by kernel_rfl) (fun _ _ _ h => h) rfl (Held.y_slice rfl (fun W => run_slice_arr_all (P := Tryd.prog) 22 5 32 xk W Tryd.underlying22 (by kernel_rfl) (by omega))) c0_0 ?_
      simp only [Act.put, List.setIfInBounds_toArray, List.set_cons_zero, List.set_cons_succ]
      refine Held.take (v := .slice A4 n4 c4) 1 (some 11) rfl rfl (by kernel_rfl) (by kernel_rfl) (by kernel_rfl) (fun _ _ _ h => h) rfl (Held.y_move rfl rfl) c0_0 ?_
      simp only [Act.put, List.setIfInBounds_toArray, List.set_cons_zero, List.set_cons_succ]
      refine Held.take (v := .slice A m c) 2 (some 12) rfl rfl (by kernel_rfl) (by kernel_rfl) (by kernel_rfl) (fun _ _ _ h => h) rfl (Held.y_load rfl rfl (by kernel_rfl) (fun W h => (h.cell (p := ⟨xi, 0, none⟩) lb2).trans q2)) c0_0 ?_
      simp only [Act.put, List.setIfInBounds_toArray, List.set_cons_zero, List.set_cons_succ]
      refine Held.take (v := .int .i64 (k : Int)) 3 (some 13) rfl rfl (by kernel_rfl) (by kernel_rfl) (by kernel_rfl) (fun _ _ _ h => h) rfl (Held.y_move rfl rfl) c0_0 ?_
      simp only [Act.put, List.setIfInBounds_toArray, List.set_cons_zero, List.set_cons_succ]
      refine Held.take (v := .int .i64 ((k : Int) + 1)) 4 (some 14) rfl rfl (by kernel_rfl) (by kernel_rfl) (by kernel_rfl) (fun _ _ _ h => h) rfl (Held.y_int rfl rfl rfl (Held.run_add 3 .i64 hw4)) c0_0 ?_
      simp only [Act.put, List.setIfInBounds_toArray, List.set_cons_zero, List.set_cons_succ]
      refine Held.take (v := .int .u8 ((k : Int) + 1)) 5 (some 15) rfl rfl (by kernel_rfl) (by kernel_rfl) (by kernel_rfl) (fun _ _ _ h => h) rfl (Held.y_convert rfl rfl (by kernel_rfl) Tryd.underlying5 hw5) c0_0 ?_
      simp only [Act.put, List.setIfInBounds_toArray, List.set_cons_zero, List.set_cons_succ]
      refine Held.two 6 9 (by kernel_rfl) ?_ ?_
      · refine Held.op_build 6 (some 16) 34 5 1 (.int .u8 0) 1 [.int .u8 ((k : Int) + 1)] rfl rfl rfl rfl Tryd.underlying34 info_u8 (by simp [Act.eval]) (by simp [Value.cells]) (by simp [Value.oneCell']) rfl (by omega) (by omega) ?_
        intro p6 w1 v6 b1
        have c0_1 := c0_0.trans (b1.mono c0_0.size)
        have c1_1 := Below.refl w1.heap.size w1
        refine ⟨c0_1, ?_⟩
        simp only [Act.put, List.setIfInBounds_toArray, List.set_cons_zero, List.set_cons_succ]
        refine Held.two 7 9 (by kernel_rfl) ?_ ?_
        · refine Held.op_build 7 (some 17) 85 34 3 (.slice none 0 0) 24 [.slice A4 n4 c4, .slice A m c, .slice (some ⟨p6, 0, none⟩) 1 1] rfl rfl rfl rfl Tryd.underlying85 info_bytes (by simp [Act.eval]) (by simp [Value.cells]) (by simp [Value.oneCell']) rfl (by omega) (by omega) ?_
          intro p7 w2 v7 b2
          have c0_2 := c0_1.trans (b2.mono c0_1.size)
          have c1_2 := b2
          have c2_2 := Below.refl w2.heap.size w2
          have T7 := (Texts.one ((i4.below c0_2).more c0_2.size) h4 h4m).cons ((Texts.one ((qi.below c0_2).more c0_2.size) hmc hcm).cons (Texts.one (((Held.ints_of_vals (zs := [(k : Int) + 1]) v6 (by simpa using hw6)).below c1_2).more c1_2.size) (Nat.le_refl 1) (by simp [maxLen])))
          refine ⟨c0_2, ?_⟩
          simp only [Act.put, List.setIfInBounds_toArray, List.set_cons_zero, List.set_cons_succ]
          refine Held.two 8 9 (by kernel_rfl) ?_ ?_
          · refine Held.op_call 8 (some 18) 50 #[.slice (some ⟨xk, 0, none⟩) 32 32, .slice (some ⟨p7, 0, none⟩) 3 3] rfl rfl rfl rfl (enters_of Tryd.func50 (by kernel_rfl) rfl) (by simp [Act.eval])
              (tag_any _ _ _ _ 32 32 3 3 key _ [piece key info k, info, [(k : Int) + 1]] _ (kq.below c0_2) (Nat.le_refl 32) (by simp [maxLen]) (by omega) (v7.below c2_2) (T7.below c2_2) c0_2.size c2_2.size (by omega) HLEN.out (hT0.below c0_2 hT0.lt) (hT1.below c0_2 hT1.lt)) ?_
            rw [HX.out]
            rintro e w3 ⟨rfl, b3⟩
            have c0_3 := c0_2.trans (b3.mono c0_2.size)
            have c1_3 := c1_2.trans (b3.mono c1_2.size)
            have c2_3 := b3
            refine ⟨_, rfl, c0_3, ?_⟩
            simp only [Act.put, List.setIfInBounds_toArray, List.set_cons_zero, List.set_cons_succ]
            refine Held.one 9 (by kernel_rfl) ?_
            refine Held.op_alloc_Row 9 (some 6) 22 .u8 32 rfl rfl rfl rfl zero_32 ?_
            intro p9 w4 r9 b4 h9
            have c0_4 := c0_3.trans (b4.mono c0_3.size)
            have c1_4 := c1_3.trans (b4.mono c1_3.size)
            have c2_4 := c2_3.trans (b4.mono c2_3.size)
            have c4_4 := Below.refl w4.heap.size w4
            have q9 := Nat.le_trans c0_3.size h9.out
            refine ⟨c0_4, ?_⟩
            simp only [Act.put, List.setIfInBounds_toArray, List.set_cons_zero, List.set_cons_succ]
            refine Held.one 10 (by kernel_rfl) ?_
            refine Held.op_store_RowL 10 none 22 p9 22 .u8 _ (piece key info (k + 1)) rfl rfl rfl rfl rfl rfl (r9.below c4_4 r9.lt) 32 info_32 (piece_length _ _ _) (by simp) (piece_wf _ _ _) ?_
            intro w5 r10 g10
            have c0_5 := c0_4.grown g10 c0_4.size (fun r e => by have := h9.out; have := c0_3.size; cases e; omega)
            refine ⟨c0_5, ?_⟩
            simp only [Act.put]
            refine wpAnyH_done (by kernel_rfl) ?_ _
            have J9 := hJ k wr w5 none Jk (grown_of_below c0_5 none) (fun r e => by cases e)
            have o9 : Only S wr w5 := Only.of_below c0_5
            obtain ⟨fn, tmps, assign, body, hy, hR⟩ := hY k (piece key info (k + 1)) w5 J9 (by simp [hlt255])
            have r9' := r10
            gi_wp2_with (refine wpListIn_load_Row rfl 22 _ rfl p9 rfl 22 .u8 _ r10 32 5 Tryd.underlying22 info_32 (piece_length _ _ _) ?_)
            refine ⟨fun h => (by cases h), ?_⟩
            refine hR.mono ?_
            rintro e W4 (⟨rfl, J4, o4⟩ | ⟨rfl, Jx4⟩)
            · have hp9 : ¬ S p9 := fun e => by have := hSlt p9 e; omega
              have r4 := o4.row hp9 r10
              gi_wp2_with fail
              go_roundw
              case rel => exact ⟨k + 1, _, 32, 32, by omega, by go_num, rfl, by omega, by simp [maxLen], by omega, nextI r4 hp9, J4, (ok.trans o9).trans o4⟩
              case measure => simp [intOf]; omega
            · gi_wp2_with fail
              exact bodyPost_ret (results_none rfl _ _ _) rfl ⟨⟨_, rfl⟩, .inr ⟨_, Jx4⟩⟩
          · refine Held.op_alloc_Row 9 (some 6) 22 .u8 32 rfl rfl rfl rfl zero_32 ?_
            intro p9 w3 r9 b3 h9
            have c0_3 := c0_2.trans (b3.mono c0_2.size)
            have c1_3 := c1_2.trans (b3.mono c1_2.size)
            have c2_3 := b3
            have c3_3 := Below.refl w3.heap.size w3
            have q9 := Nat.le_trans c0_2.size h9.out
            refine ⟨c0_3, ?_⟩
            simp only [Act.put, List.setIfInBounds_toArray, List.set_cons_zero, List.set_cons_succ]
            refine Held.one 8 (by kernel_rfl) ?_
            refine Held.op_call 8 (some 18) 50 #[.slice (some ⟨xk, 0, none⟩) 32 32, .slice (some ⟨p7, 0, none⟩) 3 3] rfl rfl rfl rfl (enters_of Tryd.func50 (by kernel_rfl) rfl) (by simp [Act.eval])
              (tag_any _ _ _ _ 32 32 3 3 key _ [piece key info k, info, [(k : Int) + 1]] _ (kq.below c0_3) (Nat.le_refl 32) (by simp [maxLen]) (by omega) (v7.below c2_3) (T7.below c2_3) c0_3.size c2_3.size (by omega) HLEN.out (hT0.below c0_3 hT0.lt) (hT1.below c0_3 hT1.lt)) ?_
            rw [HX.out]
            rintro e w4 ⟨rfl, b4⟩
            have c0_4 := c0_3.trans (b4.mono c0_3.size)
            have c1_4 := c1_3.trans (b4.mono c1_3.size)
            have c2_4 := c2_3.trans (b4.mono c2_3.size)
            have c3_4 := b4
            refine ⟨_, rfl, c0_4, ?_⟩
            simp only [Act.put, List.setIfInBounds_toArray, List.set_cons_zero, List.set_cons_succ]
            refine Held.one 10 (by kernel_rfl) ?_
            refine Held.op_store_RowL 10 none 22 p9 22 .u8 _ (piece key info (k + 1)) rfl rfl rfl rfl rfl rfl (r9.below c3_4 r9.lt) 32 info_32 (piece_length _ _ _) (by simp) (piece_wf _ _ _) ?_
            intro w5 r10 g10
            have c0_5 := c0_4.grown g10 c0_4.size (fun r e => by have := h9.out; have := c0_2.size; cases e; omega)
            refine ⟨c0_5, ?_⟩
            simp only [Act.put]
            refine wpAnyH_done (by kernel_rfl) ?_ _
            have J9 := hJ k wr w5 none Jk (grown_of_below c0_5 none) (fun r e => by cases e)
            have o9 : Only S wr w5 := Only.of_below c0_5
            obtain ⟨fn, tmps, assign, body, hy, hR⟩ := hY k (piece key info (k + 1)) w5 J9 (by simp [hlt255])
            have r9' := r10
            gi_wp2_with (refine wpListIn_load_Row rfl 22 _ rfl p9 rfl 22 .u8 _ r10 32 5 Tryd.underlying22 info_32 (piece_length _ _ _) ?_)
            refine ⟨fun h => (by cases h), ?_⟩
            refine hR.mono ?_
            rintro e W4 (⟨rfl, J4, o4⟩ | ⟨rfl, Jx4⟩)
            · have hp9 : ¬ S p9 := fun e => by have := hSlt p9 e; omega
              have r4 := o4.row hp9 r10
              gi_wp2_with fail
              go_roundw
              case rel => exact ⟨k + 1, _, 32, 32, by omega, by go_num, rfl, by omega, by simp [maxLen], by omega, nextI r4 hp9, J4, (ok.trans o9).trans o4⟩
              case measure => simp [intOf]; omega
            · gi_wp2_with fail
              exact bodyPost_ret (results_none rfl _ _ _) rfl ⟨⟨_, rfl⟩, .inr ⟨_, Jx4⟩⟩
        · refine Held.op_alloc_Row 9 (some 6) 22 .u8 32 rfl rfl rfl rfl zero_32 ?_
          intro p9 w2 r9 b2 h9
          have c0_2 := c0_1.trans (b2.mono c0_1.size)
          have c1_2 := b2
          have c2_2 := Below.refl w2.heap.size w2
          have q9 := Nat.le_trans c0_1.size h9.out
          refine ⟨c0_2, ?_⟩
          simp only [Act.put, List.setIfInBounds_toArray, List.set_cons_zero, List.set_cons_succ]
          refine Held.one 7 (by kernel_rfl) ?_
          refine Held.op_build 7 (some 17) 85 34 3 (.slice none 0 0) 24 [.slice A4 n4 c4, .slice A m c, .slice (some ⟨p6, 0, none⟩) 1 1] rfl rfl rfl rfl Tryd.underlying85 info_bytes (by simp [Act.eval]) (by simp [Value.cells]) (by simp [Value.oneCell']) rfl (by omega) (by omega) ?_
          intro p7 w3 v7 b3
          have c0_3 := c0_2.trans (b3.mono c0_2.size)
          have c1_3 := c1_2.trans (b3.mono c1_2.size)
          have c2_3 := b3
          have c3_3 := Below.refl w3.heap.size w3
          have T7 := (Texts.one ((i4.below c0_3).more c0_3.size) h4 h4m).cons ((Texts.one ((qi.below c0_3).more c0_3.size) hmc hcm).cons (Texts.one (((Held.ints_of_vals (zs := [(k : Int) + 1]) v6 (by simpa using hw6)).below c1_3).more c1_3.size) (Nat.le_refl 1) (by simp [maxLen])))
          refine ⟨c0_3, ?_⟩
          simp only [Act.put, List.setIfInBounds_toArray, List.set_cons_zero, List.set_cons_succ]
          refine Held.one 8 (by kernel_rfl) ?_
          refine Held.op_call 8 (some 18) 50 #[.slice (some ⟨xk, 0, none⟩) 32 32, .slice (some ⟨p7, 0, none⟩) 3 3] rfl rfl rfl rfl (enters_of Tryd.func50 (by kernel_rfl) rfl) (by simp [Act.eval])
            (tag_any _ _ _ _ 32 32 3 3 key _ [piece key info k, info, [(k : Int) + 1]] _ (kq.below c0_3) (Nat.le_refl 32) (by simp [maxLen]) (by omega) (v7.below c3_3) (T7.below c3_3) c0_3.size c3_3.size (by omega) HLEN.out (hT0.below c0_3 hT0.lt) (hT1.below c0_3 hT1.lt)) ?_
          rw [HX.out]
          rintro e w4 ⟨rfl, b4⟩
          have c0_4 := c0_3.trans (b4.mono c0_3.size)
          have c1_4 := c1_3.trans (b4.mono c1_3.size)
          have c2_4 := c2_3.trans (b4.mono c2_3.size)
          have c3_4 := b4
          refine ⟨_, rfl, c0_4, ?_⟩
          simp only [Act.put, List.setIfInBounds_toArray, List.set_cons_zero, List.set_cons_succ]
          refine Held.one 10 (by kernel_rfl) ?_
          refine Held.op_store_RowL 10 none 22 p9 22 .u8 _ (piece key info (k + 1)) rfl rfl rfl rfl rfl rfl (r9.below c2_4 r9.lt) 32 info_32 (piece_length _ _ _) (by simp) (piece_wf _ _ _) ?_
          intro w5 r10 g10
          have c0_5 := c0_4.grown g10 c0_4.size (fun r e => by have := h9.out; have := c0_1.size; cases e; omega)
          refine ⟨c0_5, ?_⟩
          simp only [Act.put]
          refine wpAnyH_done (by kernel_rfl) ?_ _
          have J9 := hJ k wr w5 none Jk (grown_of_below c0_5 none) (fun r e => by cases e)
          have o9 : Only S wr w5 := Only.of_below c0_5
          obtain ⟨fn, tmps, assign, body, hy, hR⟩ := hY k (piece key info (k + 1)) w5 J9 (by simp [hlt255])
          have r9' := r10
          gi_wp2_with (refine wpListIn_load_Row rfl 22 _ rfl p9 rfl 22 .u8 _ r10 32 5 Tryd.underlying22 info_32 (piece_length _ _ _) ?_)
          refine ⟨fun h => (by cases h), ?_⟩
          refine hR.mono ?_
          rintro e W4 (⟨rfl, J4, o4⟩ | ⟨rfl, Jx4⟩)
          · have hp9 : ¬ S p9 := fun e => by have := hSlt p9 e; omega
            have r4 := o4.row hp9 r10
            gi_wp2_with fail
            go_roundw
            case rel => exact ⟨k + 1, _, 32, 32, by omega, by go_num, rfl, by omega, by simp [maxLen], by omega, nextI r4 hp9, J4, (ok.trans o9).trans o4⟩
            case measure => simp [intOf]; omega
          · gi_wp2_with fail
            exact bodyPost_ret (results_none rfl _ _ _) rfl ⟨⟨_, rfl⟩, .inr ⟨_, Jx4⟩⟩
      · refine Held.op_alloc_Row 9 (some 6) 22 .u8 32 rfl rfl rfl rfl zero_32 ?_
        intro p9 w1 r9 b1 h9
        have c0_1 := c0_0.trans (b1.mono c0_0.size)
        have c1_1 := Below.refl w1.heap.size w1
        have q9 := Nat.le_trans c0_0.size h9.out
        refine ⟨c0_1, ?_⟩
        simp only [Act.put, List.setIfInBounds_toArray, List.set_cons_zero, List.set_cons_succ]
        refine Held.one 6 (by kernel_rfl) ?_
        refine Held.op_build 6 (some 16) 34 5 1 (.int .u8 0) 1 [.int .u8 ((k : Int) + 1)] rfl rfl rfl rfl Tryd.underlying34 info_u8 (by simp [Act.eval]) (by simp [Value.cells]) (by simp [Value.oneCell']) rfl (by omega) (by omega) ?_
        intro p6 w2 v6 b2
        have c0_2 := c0_1.trans (b2.mono c0_1.size)
        have c1_2 := b2
        have c2_2 := Below.refl w2.heap.size w2
        refine ⟨c0_2, ?_⟩
        simp only [Act.put, List.setIfInBounds_toArray, List.set_cons_zero, List.set_cons_succ]
        refine Held.one 7 (by kernel_rfl) ?_
        refine Held.op_build 7 (some 17) 85 34 3 (.slice none 0 0) 24 [.slice A4 n4 c4, .slice A m c, .slice (some ⟨p6, 0, none⟩) 1 1] rfl rfl rfl rfl Tryd.underlying85 info_bytes (by simp [Act.eval]) (by simp [Value.cells]) (by simp [Value.oneCell']) rfl (by omega) (by omega) ?_
        intro p7 w3 v7 b3
        have c0_3 := c0_2.trans (b3.mono c0_2.size)
        have c1_3 := c1_2.trans (b3.mono c1_2.size)
        have c2_3 := b3
        have c3_3 := Below.refl w3.heap.size w3
        have T7 := (Texts.one ((i4.below c0_3).more c0_3.size) h4 h4m).cons ((Texts.one ((qi.below c0_3).more c0_3.size) hmc hcm).cons (Texts.one (((Held.ints_of_vals (zs := [(k : Int) + 1]) v6 (by simpa using hw6)).below c2_3).more c2_3.size) (Nat.le_refl 1) (by simp [maxLen])))
        refine ⟨c0_3, ?_⟩
        simp only [Act.put, List.setIfInBounds_toArray, List.set_cons_zero, List.set_cons_succ]
        refine Held.one 8 (by kernel_rfl) ?_
        refine Held.op_call 8 (some 18) 50 #[.slice (some ⟨xk, 0, none⟩) 32 32, .slice (some ⟨p7, 0, none⟩) 3 3] rfl rfl rfl rfl (enters_of Tryd.func50 (by kernel_rfl) rfl) (by simp [Act.eval])
          (tag_any _ _ _ _ 32 32 3 3 key _ [piece key info k, info, [(k : Int) + 1]] _ (kq.below c0_3) (Nat.le_refl 32) (by simp [maxLen]) (by omega) (v7.below c3_3) (T7.below c3_3) c0_3.size c3_3.size (by omega) HLEN.out (hT0.below c0_3 hT0.lt) (hT1.below c0_3 hT1.lt)) ?_
        rw [HX.out]
        rintro e w4 ⟨rfl, b4⟩
        have c0_4 := c0_3.trans (b4.mono c0_3.size)
        have c1_4 := c1_3.trans (b4.mono c1_3.size)
        have c2_4 := c2_3.trans (b4.mono c2_3.size)
        have c3_4 := b4
        refine ⟨_, rfl, c0_4, ?_⟩
        simp only [Act.put, List.setIfInBounds_toArray, List.set_cons_zero, List.set_cons_succ]
        refine Held.one 10 (by kernel_rfl) ?_
        refine Held.op_store_RowL 10 none 22 p9 22 .u8 _ (piece key info (k + 1)) rfl rfl rfl rfl rfl rfl (r9.below c1_4 r9.lt) 32 info_32 (piece_length _ _ _) (by simp) (piece_wf _ _ _) ?_
        intro w5 r10 g10
        have c0_5 := c0_4.grown g10 c0_4.size (fun r e => by have := h9.out; have := c0_0.size; cases e; omega)
        refine ⟨c0_5, ?_⟩
        simp only [Act.put]
        refine wpAnyH_done (by kernel_rfl) ?_ _
        have J9 := hJ k wr w5 none Jk (grown_of_below c0_5 none) (fun r e => by cases e)
        have o9 : Only S wr w5 := Only.of_below c0_5
        obtain ⟨fn, tmps, assign, body, hy, hR⟩ := hY k (piece key info (k + 1)) w5 J9 (by simp [hlt255])
        have r9' := r10
        gi_wp2_with (refine wpListIn_load_Row rfl 22 _ rfl p9 rfl 22 .u8 _ r10 32 5 Tryd.underlying22 info_32 (piece_length _ _ _) ?_)
        refine ⟨fun h => (by cases h), ?_⟩
        refine hR.mono ?_
        rintro e W4 (⟨rfl, J4, o4⟩ | ⟨rfl, Jx4⟩)
        · have hp9 : ¬ S p9 := fun e => by have := hSlt p9 e; omega
          have r4 := o4.row hp9 r10
          gi_wp2_with fail
          go_roundw
          case rel => exact ⟨k + 1, _, 32, 32, by omega, by go_num, rfl, by omega, by simp [maxLen], by omega, nextI r4 hp9, J4, (ok.trans o9).trans o4⟩
          case measure => simp [intOf]; omega
        · gi_wp2_with fail
          exact bodyPost_ret (results_none rfl _ _ _) rfl ⟨⟨_, rfl⟩, .inr ⟨_, Jx4⟩⟩
    · have hk255 : k = 255 := by omega
      subst hk255
      gi_wp2_with fail
      go_end0
      exact ⟨⟨_, rfl⟩, .inl ⟨255, by simp, Jk⟩⟩
end Go.Proofs.YtoelgcdjhekafaaDoor.Hkdf
