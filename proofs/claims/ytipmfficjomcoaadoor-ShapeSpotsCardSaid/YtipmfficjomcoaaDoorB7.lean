/-
  A range over a function whose iterator keeps blocks of its own and turns them between two yields, and whose body may leave early; it may itself stand in an iterator, or in a round of another loop: which blocks are the iterator's is carried along as a set.
  Package shape's size, and its iterator over the groups of tasks, by their contracts.
-/
import Derived.Test.YtipmfficjomcoaaDoorB2
import Derived.Test.YtipmfficjomcoaaDoorB1
import Derived.RangeFuncWrites
import Derived.Test.YtipmfficjomcoaaDoorB5
import Derived.Test.YtipmfficjomcoaaDoorB3
import Derived.Test.YtipmfficjomcoaaDoorB4
set_option linter.unusedVariables false
namespace Go.Proofs.YtipmfficjomcoaaDoor.Range
open Go.RowKit
structure KeepsP (S : Nat → Prop) (W W' : World) : Prop where
  os : W'.os = W.os
  tape : W'.tape = W.tape
  output : W'.output = W.output
  size : W.heap.size ≤ W'.heap.size
  block : ∀ r o, S r → W.heap[r]? = some o → W'.heap[r]? = some o
section
variable {S S' : Nat → Prop} {W W' W'' : World}
theorem KeepsP.refl (S : Nat → Prop) (W : World) : KeepsP S W W := ⟨rfl, rfl, rfl, Nat.le_refl _, fun _ _ _ h => h⟩
theorem KeepsP.trans (h : KeepsP S W W') (k : KeepsP S W' W'') : KeepsP S W W'' := ⟨k.os.trans h.os, k.tape.trans h.tape, k.output.trans h.output, Nat.le_trans h.size k.size, fun r o hr ho => k.block r o hr (h.block r o hr ho)⟩
theorem KeepsP.less (h : KeepsP S W W') (hs : ∀ r, S' r → S r) : KeepsP S' W W' := ⟨h.os, h.tape, h.output, h.size, fun r o hr ho => h.block r o (hs r hr) ho⟩
theorem KeepsP.of_grown {row : Option Nat} (h : W.grownBy W' row) (hr : ∀ r, row = some r → ¬ S r) : KeepsP S W W' :=
  ⟨h.os, h.tape, h.output, h.size, fun r o hs ho => (h.block r (Array.getElem?_eq_some_iff.1 ho).1 (fun e => hr r e.symm hs)).trans ho⟩
theorem KeepsP.of_below (h : Below W.heap.size W W') : KeepsP S W W' := KeepsP.of_grown (Mem.grown_of_below h none) (fun r e => by cases e)
theorem KeepsP.below {B : Nat} (h : KeepsP S W W') (hB : B ≤ W.heap.size) (hs : ∀ r, r < B → S r) : Below B W W' :=
  ⟨h.os, h.tape, h.output, h.size, fun k hk => by
    have e := Array.getElem?_eq_getElem (xs := W.heap) (show k < W.heap.size by omega)
    rw [e]
    exact h.block k _ (hs k hk) e⟩
end
structure Stay {β : Type} (J : (Nat → Prop) → β → World → Prop) : Prop where
  new : ∀ pv pv' s W W', J pv s W → W.grownBy W' none → (∀ r, pv r → pv' r) → (∀ r, pv' r → pv r ∨ (W.heap.size ≤ r ∧ r < W'.heap.size)) → J pv' s W'
  put : ∀ pv s W W' r, J pv s W → pv r → W.grownBy W' (some r) → J pv s W'
section
variable {β : Type} {J K : (Nat → Prop) → β → World → Prop} {pv : Nat → Prop} {s : β} {W W' : World}
theorem Stay.same (h : Stay J) (hs : J pv s W) (hg : W.grownBy W' none) : J pv s W' := h.new pv pv s W W' hs hg (fun _ h => h) (fun _ h => .inl h)
theorem Stay.one (h : Stay J) (hs : J pv s W) (hg : W.grownBy W' none) (b : Nat) (h1 : W.heap.size ≤ b) (h2 : b < W'.heap.size) : J (fun r => pv r ∨ r = b) s W' :=
  h.new pv _ s W W' hs hg (fun _ h => .inl h) (fun r hr => hr.elim .inl (fun e => .inr (by subst e; exact ⟨h1, h2⟩)))
theorem Stay.below (h : Stay J) (hs : J pv s W) (hb : Below W.heap.size W W') : J pv s W' := h.same hs (Mem.grown_of_below hb none)
theorem Stay.all (h : Stay J) (hs : J pv s W) (hb : Below W.heap.size W W') : J (fun r => pv r ∨ (W.heap.size ≤ r ∧ r < W'.heap.size)) s W' :=
  h.new pv _ s W W' hs (Mem.grown_of_below hb none) (fun _ h => .inl h) (fun _ h => h)
end
def SeqP {α : Type} (F : Fence) (n : Nat) (P : Program) (g : Nat) (lb : Array Value) (Nd : Nat → Prop) (encs : α → Array Value) (at_ : Nat → Option α) (w : World) : Prop :=
  ∀ (l : Nat) (J Jx : (Nat → Prop) → Nat → World → Prop) (W : World), Below w.heap.size w W → Stay J → Stay Jx →
    (∀ pv k x W1, J pv k W1 → at_ k = some x → YieldAt F (n - 1) P l (encs x) W1 fun e W' => KeepsP (fun r => Nd r ∨ pv r) W1 W' ∧
      ((e = .returned (.bool true) ∧ J pv (k + 1) W') ∨ (e = .returned (.bool false) ∧ Jx pv (k + 1) W'))) →
    J (fun _ => False) 0 W → CallsIn F n P g (#[.func (.yield l) #[] #[]] ++ lb) W fun e W' => (∃ v, e = .returned v) ∧ ((∃ pv k, at_ k = none ∧ J pv k W') ∨ ∃ pv k, Jx pv k W')
def Inn (J : (Nat → Prop) → Nat → World → Prop) (own nd : Nat → Prop) (F : Nat → World → Prop) (ix : Nat → Nat) (pv : Nat → Prop) (k : Nat) (W : World) : Prop :=
  ∃ pvo : Nat → Prop, (∀ r, pv r → pvo r) ∧ J pvo (ix k) W ∧ (∀ b, own b → pvo b) ∧ (∀ b, own b ∨ nd b → ¬ pv b ∧ b < W.heap.size) ∧ (∀ r, pv r → r < W.heap.size) ∧ F k W
def Out (Jx : (Nat → Prop) → Nat → World → Prop) (pv : Nat → Prop) (k : Nat) (W : World) : Prop := ∃ (pvo : Nat → Prop) (q : Nat), (∀ r, pv r → pvo r) ∧ Jx pvo q W
section
variable {J : (Nat → Prop) → Nat → World → Prop} {own nd : Nat → Prop} {F : Nat → World → Prop} {ix : Nat → Nat} {pv : Nat → Prop} {k : Nat} {W W' : World}
theorem stay_inn (hJ : Stay J) (hF : ∀ k W W', F k W → KeepsP (fun r => own r ∨ nd r) W W' → F k W') : Stay (Inn J own nd F ix) where
  new pv pv' s W W' h hg h1 h2 := by
    obtain ⟨pvo, a1, a2, a3, a4, a5, a6⟩ := h
    have hk : KeepsP (fun r => own r ∨ nd r) W W' := KeepsP.of_grown hg (fun r e => by cases e)
    refine ⟨fun r => pvo r ∨ (W.heap.size ≤ r ∧ r < W'.heap.size), fun r hr => (h2 r hr).elim (fun h => .inl (a1 r h)) .inr, hJ.new pvo _ _ W W' a2 hg (fun r h => .inl h) (fun r h => h), fun b hb => .inl (a3 b hb), fun b hb => ⟨fun hp => ?_, Nat.lt_of_lt_of_le (a4 b hb).2 hg.size⟩, fun r hr => ?_, hF _ _ _ a6 hk⟩
    · have := (a4 b hb).2
      exact (h2 b hp).elim (a4 b hb).1 (fun h => by omega)
    · have := hg.size
      exact (h2 r hr).elim (fun h => by have := a5 r h; omega) (fun h => h.2)
  put pv s W W' r h hr hg := by
    obtain ⟨pvo, a1, a2, a3, a4, a5, a6⟩ := h
    have hk : KeepsP (fun r => own r ∨ nd r) W W' := KeepsP.of_grown hg (fun q e hq => by injection e with e; subst e; exact (a4 _ hq).1 hr)
    exact ⟨pvo, a1, hJ.put pvo _ W W' r a2 (a1 r hr) hg, a3, fun b hb => ⟨(a4 b hb).1, Nat.lt_of_lt_of_le (a4 b hb).2 hg.size⟩, fun r hr => Nat.lt_of_lt_of_le (a5 r hr) hg.size, hF _ _ _ a6 hk⟩
theorem stay_out {Jx : (Nat → Prop) → Nat → World → Prop} (hJ : Stay Jx) : Stay (Out Jx) where
  new pv pv' s W W' h hg h1 h2 := by
    obtain ⟨pvo, q, a1, a2⟩ := h
    exact ⟨fun r => pvo r ∨ (W.heap.size ≤ r ∧ r < W'.heap.size), q, fun r hr => (h2 r hr).elim (fun h => .inl (a1 r h)) .inr, hJ.new pvo _ _ W W' a2 hg (fun r h => .inl h) (fun r h => h)⟩
  put pv s W W' r h hr hg := by
    obtain ⟨pvo, q, a1, a2⟩ := h
    exact ⟨pvo, q, a1, hJ.put pvo _ W W' r a2 (a1 r hr) hg⟩
theorem stay_true : Stay (fun (_ : Nat → Prop) (_ : Nat) (_ : World) => True) where
  new _ _ _ _ _ _ _ _ _ := trivial
  put _ _ _ _ _ _ _ _ := trivial
theorem stay_const {β : Type} {C : β → Prop} : Stay (fun (_ : Nat → Prop) (s : β) (_ : World) => C s) where
  new _ _ _ _ _ h _ _ _ := h
  put _ _ _ _ _ h _ _ := h
theorem stay_and {β : Type} {J K : (Nat → Prop) → β → World → Prop} (h : Stay J) (k : Stay K) : Stay (fun pv s W => J pv s W ∧ K pv s W) where
  new pv pv' s W W' hs hg h1 h2 := ⟨h.new _ _ _ _ _ hs.1 hg h1 h2, k.new _ _ _ _ _ hs.2 hg h1 h2⟩
  put pv s W W' r hs hr hg := ⟨h.put _ _ _ _ _ hs.1 hr hg, k.put _ _ _ _ _ hs.2 hr hg⟩
theorem inn_start {pvo : Nat → Prop} (hJ : J pvo (ix 0) W) (h1 : ∀ b, own b → pvo b) (h2 : ∀ b, own b ∨ nd b → b < W.heap.size) (hF : F 0 W) : Inn J own nd F ix (fun _ => False) 0 W :=
  ⟨pvo, fun _ h => h.elim, hJ, h1, fun b hb => ⟨fun h => h, h2 b hb⟩, fun _ h => h.elim, hF⟩
theorem inn_more (hJ : Stay J) (h : Inn J own nd F ix pv k W) (hb : Below W.heap.size W W') {F' : Nat → World → Prop} {b : Nat} (h1 : W.heap.size ≤ b) (h2 : b < W'.heap.size) (hF : F k W → KeepsP (fun r => own r ∨ nd r) W W' → F' k W') : Inn J (fun r => r = b ∨ own r) nd F' ix pv k W' := by
  obtain ⟨pvo, a1, a2, a3, a4, a5, a6⟩ := h
  have hg := Mem.grown_of_below hb none
  refine ⟨fun r => pvo r ∨ (W.heap.size ≤ r ∧ r < W'.heap.size), fun r hr => .inl (a1 r hr), hJ.new pvo _ _ W W' a2 hg (fun r h => .inl h) (fun r h => h), fun q hq => ?_, fun q hq => ?_, fun r hr => Nat.lt_of_lt_of_le (a5 r hr) hg.size, hF a6 (KeepsP.of_below hb)⟩
  · rcases hq with rfl | hq
    · exact .inr ⟨h1, h2⟩
    · exact .inl (a3 q hq)
  · rcases hq with (rfl | hq) | hq
    · exact ⟨fun hp => by have := a5 _ hp; omega, h2⟩
    · exact ⟨(a4 q (.inl hq)).1, Nat.lt_of_lt_of_le (a4 q (.inl hq)).2 hg.size⟩
    · exact ⟨(a4 q (.inr hq)).1, Nat.lt_of_lt_of_le (a4 q (.inr hq)).2 hg.size⟩
end
theorem SeqP.inRound {α : Type} {F : Fence} {n : Nat} {P : Program} {g : Nat} {lb : Array Value} {Nd : Nat → Prop} {encs : α → Array Value} {at_ : Nat → Option α} {w : World} (l : Nat) (h : SeqP F n P g lb Nd encs at_ w) : SeqP (F.inRound l) n P g lb Nd encs at_ w := h
variable {F : Fence} {n : Nat} {P : Program}
theorem wpIn_rangeFunc_p {α : Type} {g : Operand} {ps : Array Tmp} {assign body : Code} {Q : Exit → Act → World → Prop} {a : Act} {w : World}
    (hro : F.round = none) (h1 : 1 ≤ n) {gf : Nat} {lb : Array Value} (hg : a.eval g = .func (.func gf) #[] lb) (hFg : F.fn gf) (eg : ∀ args w, (callFunc gf args).run P w = .ok (.enter gf args) w)
    {Nd : Nat → Prop} {encs : α → Array Value} {at_ : Nat → Option α} {w0 : World} (hseq : SeqP F (n - 1) P gf lb Nd encs at_ w0)
    (hb0 : Below w0.heap.size w0 w) (hps : ∀ x, (encs x).size = ps.size) (hNd : ∀ r, Nd r → r < w.heap.size)
    (I : (Nat → Prop) → Nat → World → Prop) (Ix : Code → (Nat → Prop) → Nat → World → Prop) (hI : Stay I) (hIx : ∀ c, Stay (Ix c)) (h0 : I (fun _ => False) 0 w)
    (Ib : (Nat → Prop) → Nat → α → Act → World → Prop) (hIb : ∀ pv k x a' W W' r, Ib pv k x a' W → pv r → W.grownBy W' (some r) → Ib pv k x a' W')
    (hassign : ∀ (l : Nat) (pv : Nat → Prop) (k : Nat) (x : α) (W : World) (K : Act → World → Prop), pv l → I pv k W → at_ k = some x → (∀ a' W', KeepsP (fun r => Nd r ∨ pv r) W W' → Ib pv k x a' W' → K a' W') →
      assign.wpIn (F.inRound l) (n - 1 - 1) P (Exit.then K (fun _ _ _ => False)) { tmps := (ps.zip (encs x)).foldl (fun t (p, v) => t.setIfInBounds p v) a.tmps, defers := [] } W)
    (hbody : ∀ (l : Nat) (pv : Nat → Prop) (k : Nat) (x : α) (a' : Act) (W : World), pv l → (∃ r, W.heap[l]? = some (.loop r)) → Ib pv k x a' W → at_ k = some x →
      body.wpIn (F.inRound l) (n - 1 - 1) P (stopPost (fun W' => KeepsP (fun r => Nd r ∨ pv r) W W' ∧ I pv (k + 1) W') (fun c W' => KeepsP (fun r => Nd r ∨ pv r) W W' ∧ Ix c pv (k + 1) W')) a' W)
    (hdone : ∀ (D : Nat) (pv : Nat → Prop) (k : Nat) (W : World), at_ k = none → I pv k W → pv D → W.heap[D]? = some (.deferred (some [])) → Q .normal { a with defers := { target := .collected D, args := #[] } :: a.defers } W)
    (hstop : ∀ (D : Nat) (c : Code) (pv : Nat → Prop) (k : Nat) (W : World), Ix c pv k W → pv D → W.heap[D]? = some (.deferred (some [])) → c.wpIn F n P Q { a with defers := { target := .collected D, args := #[] } :: a.defers } W) :
    (Code.rangeFunc g ps assign body).wpIn F n P Q a w := by
  refine wpIn_rangeFunc fun fn hfn => ?_
  rw [hro]
  let rec0 : LoopState → Option Code → Loop := fun st pe => { state := st, pending := pe, fn := fn, tmps := a.tmps, params := ps, assign := assign, body := body, defers := w.heap.size }
  let W1 : World := (w.alloc (.deferred (some []))).alloc (.loop (rec0 .ready none))
  have hz1 : W1.heap.size = w.heap.size + 2 := by simp [W1]
  have hl1 : W1.heap[w.heap.size + 1]? = some (.loop (rec0 .ready none)) := by
    have e := World.alloc_heap_new (w.alloc (.deferred (some []))) (.loop (rec0 .ready none))
    rwa [World.size_alloc] at e
  have hd1 : W1.heap[w.heap.size]? = some (.deferred (some [])) := (Below.heap_alloc _ _ _ (by simp)).trans (World.alloc_heap_new w _)
  have hbW : Below w.heap.size w W1 := (((Below.refl _ w).alloc (Nat.le_refl _) _).alloc (by simp) _)
  have hi1 : I (fun r => False ∨ (w.heap.size ≤ r ∧ r < W1.heap.size)) 0 W1 := hI.all h0 hbW
  have hb1 : Below w0.heap.size w0 W1 := hb0.trans (hbW.mono hb0.size)
  let L : Nat → Prop := fun r => r = w.heap.size ∨ r = w.heap.size + 1
  have hlN : ∀ r, L r → ¬ Nd r := fun r h hr => by have := hNd r hr; rcases h with h | h <;> omega
  have hset : ∀ (pv : Nat → Prop) {s : Nat} {W : World} (J : (Nat → Prop) → Nat → World → Prop), Stay J → (∀ r, pv r → L r) → (∀ r, L r → pv r) → J pv s W → J (fun r => (fun _ => False) r ∨ L r) s W := fun pv {s W} J hJ h1 h2 h =>
    hJ.new pv _ s W W h (World.grownBy.refl W none) (fun r hr => .inr (h1 r hr)) (fun r hr => hr.elim (fun e => e.elim) (fun h => .inl (h2 r h)))
  refine ⟨w.heap.size + 1, [{ target := .collected w.heap.size, args := #[] }], W1, { target := .fn (.func gf) lb, args := #[.func (.yield (w.heap.size + 1)) #[] #[]] }, W1, gf,
    #[.func (.yield (w.heap.size + 1)) #[] #[]] ++ lb, W1, run_enterLoop_outer _ _ _ _ _, by simp only [resolve, hg]; simp [go_sem],
    fun f' hf' => by simp [Target.leads] at hf'; subst hf'; exact hFg, by simp [invoke, go_sem, eg], fun _ => h1, ?_⟩
  have more : ∀ {J : (Nat → Prop) → Nat → World → Prop}, Stay J → ∀ {pv pv' : Nat → Prop} {s : Nat} {A B : World}, J (fun r => pv r ∨ L r) s A → A.grownBy B none → (∀ r, pv r → pv' r) → (∀ r, pv' r → pv r ∨ (A.heap.size ≤ r ∧ r < B.heap.size)) → J (fun r => pv' r ∨ L r) s B := by
    intro J hJ pv pv' s A B h hg' h1 h2
    exact hJ.new _ _ s A B h hg' (fun r hr => hr.elim (fun h => .inl (h1 r h)) .inr) (fun r hr => hr.elim (fun h => (h2 r h).elim (fun h => .inl (.inl h)) .inr) (fun h => .inl (.inr h)))
  have keep : ∀ {A B : World} {row : Option Nat} (i : Nat) (o : Obj), A.heap[i]? = some o → A.grownBy B row → (∀ r, row = some r → r ≠ i) → B.heap[i]? = some o := by
    intro A B row i o ho hg' hr
    exact (hg'.block i (Array.getElem?_eq_some_iff.1 ho).1 (fun e => hr i e.symm rfl)).trans ho
  refine (hseq (w.heap.size + 1) (fun pv k W => (I (fun r => pv r ∨ L r) k W ∧ (∀ r, L r → ¬ pv r)) ∧ W.heap[w.heap.size + 1]? = some (.loop (rec0 .ready none)) ∧ W.heap[w.heap.size]? = some (.deferred (some [])))
    (fun pv k W => (∃ c, Ix c (fun r => pv r ∨ L r) k W ∧ W.heap[w.heap.size + 1]? = some (.loop (rec0 .done (some c)))) ∧ (∀ r, L r → ¬ pv r) ∧ W.heap[w.heap.size]? = some (.deferred (some []))) W1 hb1
    ⟨fun pv pv' s A B hs hg' h1 h2 => ⟨⟨more hI hs.1.1 hg' h1 h2, fun r hr hp => (h2 r hp).elim (hs.1.2 r hr) (fun h => by
        have hlt := (Array.getElem?_eq_some_iff.1 hs.2.1).1
        rcases hr with rfl | rfl <;> omega)⟩, keep _ _ hs.2.1 hg' (fun r e => by cases e), keep _ _ hs.2.2 hg' (fun r e => by cases e)⟩,
     fun pv s A B r hs hp hg' => ⟨⟨hI.put _ s A B r hs.1.1 (.inl hp) hg', hs.1.2⟩, keep _ _ hs.2.1 hg' (fun r' e => by injection e with e; subst e; rintro rfl; exact hs.1.2 _ (.inr rfl) hp), keep _ _ hs.2.2 hg' (fun r' e => by injection e with e; subst e; rintro rfl; exact hs.1.2 _ (.inl rfl) hp)⟩⟩
    ⟨fun pv pv' s A B hs hg' h1 h2 => by
        obtain ⟨⟨c, hc, hl⟩, hn, hd⟩ := hs
        have hlt := (Array.getElem?_eq_some_iff.1 hl).1
        exact ⟨⟨c, more (hIx c) hc hg' h1 h2, keep _ _ hl hg' (fun r e => by cases e)⟩, fun r hr hp => (h2 r hp).elim (hn r hr) (fun h => by rcases hr with rfl | rfl <;> omega), keep _ _ hd hg' (fun r e => by cases e)⟩,
     fun pv s A B r hs hp hg' => by
        obtain ⟨⟨c, hc, hl⟩, hn, hd⟩ := hs
        exact ⟨⟨c, (hIx c).put _ s A B r hc (.inl hp) hg', keep _ _ hl hg' (fun r' e => by injection e with e; subst e; rintro rfl; exact hn _ (.inr rfl) hp)⟩, hn, keep _ _ hd hg' (fun r' e => by injection e with e; subst e; rintro rfl; exact hn _ (.inl rfl) hp)⟩⟩
    ?_ ⟨⟨hset _ I hI (fun r hr => hr.elim (fun e => e.elim) (fun h => by show r = w.heap.size ∨ r = w.heap.size + 1; omega)) (fun r hr => .inr (by rcases hr with rfl | rfl <;> omega)) hi1, fun r _ h => h⟩, hl1, hd1⟩).mono ?_
  · -- a round
    rintro pv k x W ⟨⟨hi, hn⟩, hl, hd⟩ hat
    have hlt : w.heap.size + 1 < W.heap.size := (Array.getElem?_eq_some_iff.1 hl).1
    have hy := run_yield (P := P) (args := encs x) hl (hps x)
    have hsub : ∀ r, (Nd r ∨ pv r) → (Nd r ∨ (pv r ∨ L r)) := fun r h => h.elim .inl (fun h => .inr (.inl h))
    have hpl : ¬ (Nd (w.heap.size + 1) ∨ pv (w.heap.size + 1)) := fun h => h.elim (hlN _ (.inr rfl)) (hn _ (.inr rfl))
    have kput : ∀ (A : World) (o : Obj), KeepsP (fun r => Nd r ∨ pv r) A (A.putObj (w.heap.size + 1) o) := fun A o => KeepsP.of_grown (grownBy_putObj' A _ o) (fun r e h => by injection e with e; subst e; exact hpl h)
    refine ⟨fn, _, assign, body, hy, roundIn_of_wpIn hfn (hassign _ _ k x W _ (.inr (.inr rfl)) hi hat ?_)⟩
    intro a' W2 hk2 hib
    have hl2 := hk2.block _ _ (.inr (.inr (.inr rfl))) hl
    have hd2 := hk2.block _ _ (.inr (.inr (.inl rfl))) hd
    have hlt2 : w.heap.size + 1 < W2.heap.size := (Array.getElem?_eq_some_iff.1 hl2).1
    refine ⟨_, run_beginRound hl2 rfl, ?_⟩
    have hl3 : (W2.putObj (w.heap.size + 1) (.loop { rec0 .ready none with state := .busy })).heap[w.heap.size + 1]? = some (.loop { rec0 .ready none with state := .busy }) := World.putObj_heap_same hlt2
    have hd3 : (W2.putObj (w.heap.size + 1) (.loop { rec0 .ready none with state := .busy })).heap[w.heap.size]? = some (.deferred (some [])) := (World.putObj_heap_other (by omega)).trans hd2
    have hk3 : KeepsP (fun r => Nd r ∨ pv r) W (W2.putObj (w.heap.size + 1) (.loop { rec0 .ready none with state := .busy })) := (hk2.less hsub).trans (kput _ _)
    refine wpIn_mono (hbody _ _ k x a' _ (.inr (.inr rfl)) ⟨_, hl3⟩ (hIb _ k x a' _ _ (w.heap.size + 1) hib (.inr (.inr rfl)) (grownBy_putObj' W2 _ _)) hat) ?_
    intro e a3 W4 hp
    have fin : ∀ (jump : Code), KeepsP (fun r => Nd r ∨ (pv r ∨ L r)) (W2.putObj (w.heap.size + 1) (.loop { rec0 .ready none with state := .busy })) W4 → Ix jump (fun r => pv r ∨ L r) (k + 1) W4 →
        ∃ v w', (Instr.endRound (w.heap.size + 1) (some jump)).run P W4 = .ok v w' ∧ KeepsP (fun r => Nd r ∨ pv r) W w' ∧ Ending.returned v = .returned (.bool false) ∧
          ((∃ c, Ix c (fun r => pv r ∨ L r) (k + 1) w' ∧ w'.heap[w.heap.size + 1]? = some (.loop (rec0 .done (some c)))) ∧ (∀ r, L r → ¬ pv r) ∧ w'.heap[w.heap.size]? = some (.deferred (some []))) := fun jump hk4 hi4 => by
      have hl4 := hk4.block _ _ (.inr (.inr (.inr rfl))) hl3
      have hd4 := hk4.block _ _ (.inr (.inr (.inl rfl))) hd3
      have hlt4 : w.heap.size + 1 < W4.heap.size := (Array.getElem?_eq_some_iff.1 hl4).1
      exact ⟨_, _, run_endRound (P := P) (some jump) hl4, (hk3.trans (hk4.less hsub)).trans (kput _ _), rfl, ⟨jump, (hIx _).put _ _ _ _ _ hi4 (.inr (.inr rfl)) (grownBy_putObj' W4 _ _), World.putObj_heap_same hlt4⟩, hn, (World.putObj_heap_other (by omega)).trans hd4⟩
    cases e with
    | normal =>
      obtain ⟨hk4, hi4⟩ := hp
      have hl4 := hk4.block _ _ (.inr (.inr (.inr rfl))) hl3
      have hd4 := hk4.block _ _ (.inr (.inr (.inl rfl))) hd3
      have hlt4 : w.heap.size + 1 < W4.heap.size := (Array.getElem?_eq_some_iff.1 hl4).1
      exact ⟨_, _, run_endRound (P := P) none hl4, (hk3.trans (hk4.less hsub)).trans (kput _ _), .inl ⟨rfl, ⟨hI.put _ _ _ _ _ hi4 (.inr (.inr rfl)) (grownBy_putObj' W4 _ _), hn⟩, World.putObj_heap_same hlt4, (World.putObj_heap_other (by omega)).trans hd4⟩⟩
    | ret => obtain ⟨v, w', hr, e0, e1, e2⟩ := fin .ret hp.1 hp.2; exact ⟨v, w', hr, e0, .inr ⟨e1, e2⟩⟩
    | exit id => obtain ⟨v, w', hr, e0, e1, e2⟩ := fin (.exit id) hp.1 hp.2; exact ⟨v, w', hr, e0, .inr ⟨e1, e2⟩⟩
    | goto t => obtain ⟨v, w', hr, e0, e1, e2⟩ := fin (.goto t) hp.1 hp.2; exact ⟨v, w', hr, e0, .inr ⟨e1, e2⟩⟩
    | panic ch => exact hp.elim
    | outgrown => exact hp.elim
  · -- behind the iterator
    rintro e W2 ⟨⟨v, rfl⟩, (⟨pv, k, hk, ⟨hi, hn⟩, hl, hd⟩ | ⟨pv, k, ⟨c, hi, hl⟩, hn, hd⟩)⟩
    · exact ⟨none, _, run_endLoop (P := P) hl (by simp [rec0]), hdone _ _ k _ hk (hI.put _ _ _ _ _ hi (.inr (.inr rfl)) (grownBy_putObj' W2 _ _)) (.inr (.inl rfl)) ((World.putObj_heap_other (by omega)).trans hd)⟩
    · exact ⟨some c, _, run_endLoop (P := P) hl (by simp [rec0]), hstop _ c _ k _ ((hIx c).put _ _ _ _ _ hi (.inr (.inr rfl)) (grownBy_putObj' W2 _ _)) (.inr (.inl rfl)) ((World.putObj_heap_other (by omega)).trans hd)⟩
theorem wpIn_rangeFunc_pN {α : Type} {g : Operand} {ps : Array Tmp} {assign body : Code} {Q : Exit → Act → World → Prop} {a : Act} {w : World}
    {l₀ : Nat} {r₀ : Loop} (hro : F.round = some l₀) (hl₀ : w.heap[l₀]? = some (.loop r₀)) (h1 : 1 ≤ n) {gf : Nat} {lb : Array Value} (hg : a.eval g = .func (.func gf) #[] lb) (hFg : F.fn gf) (eg : ∀ args w, (callFunc gf args).run P w = .ok (.enter gf args) w)
    {Nd : Nat → Prop} {encs : α → Array Value} {at_ : Nat → Option α} {w0 : World} (hseq : SeqP F (n - 1) P gf lb Nd encs at_ w0)
    (hb0 : Below w0.heap.size w0 w) (hps : ∀ x, (encs x).size = ps.size) (hNd : ∀ r, Nd r → r < w.heap.size)
    (I : (Nat → Prop) → Nat → World → Prop) (Ix : Code → (Nat → Prop) → Nat → World → Prop) (hI : Stay I) (hIx : ∀ c, Stay (Ix c)) (h0 : I (fun _ => False) 0 w)
    (Ib : (Nat → Prop) → Nat → α → Act → World → Prop) (hIb : ∀ pv k x a' W W' r, Ib pv k x a' W → pv r → W.grownBy W' (some r) → Ib pv k x a' W')
    (hassign : ∀ (l : Nat) (pv : Nat → Prop) (k : Nat) (x : α) (W : World) (K : Act → World → Prop), pv l → I pv k W → at_ k = some x → (∀ a' W', KeepsP (fun r => Nd r ∨ pv r) W W' → Ib pv k x a' W' → K a' W') →
      assign.wpIn (F.inRound l) (n - 1 - 1) P (Exit.then K (fun _ _ _ => False)) { tmps := (ps.zip (encs x)).foldl (fun t (p, v) => t.setIfInBounds p v) a.tmps, defers := [] } W)
    (hbody : ∀ (l : Nat) (pv : Nat → Prop) (k : Nat) (x : α) (a' : Act) (W : World), pv l → (∃ r, W.heap[l]? = some (.loop r)) → Ib pv k x a' W → at_ k = some x →
      body.wpIn (F.inRound l) (n - 1 - 1) P (stopPost (fun W' => KeepsP (fun r => Nd r ∨ pv r) W W' ∧ I pv (k + 1) W') (fun c W' => KeepsP (fun r => Nd r ∨ pv r) W W' ∧ Ix c pv (k + 1) W')) a' W)
    (hdone : ∀ (pv : Nat → Prop) (k : Nat) (W : World), at_ k = none → I pv k W → Q .normal a W)
    (hstop : ∀ (c : Code) (pv : Nat → Prop) (k : Nat) (W : World), Ix c pv k W → c.wpIn F n P Q a W) :
    (Code.rangeFunc g ps assign body).wpIn F n P Q a w := by
  refine wpIn_rangeFunc fun fn hfn => ?_
  rw [hro]
  let rec0 : LoopState → Option Code → Loop := fun st pe => { state := st, pending := pe, fn := fn, tmps := a.tmps, params := ps, assign := assign, body := body, defers := r₀.defers }
  let W1 : World := w.alloc (.loop (rec0 .ready none))
  have hz1 : W1.heap.size = w.heap.size + 1 := by simp [W1]
  have hl1 : W1.heap[w.heap.size]? = some (.loop (rec0 .ready none)) := World.alloc_heap_new w _
  have hbW : Below w.heap.size w W1 := ((Below.refl _ w).alloc (Nat.le_refl _) _)
  have hi1 : I (fun r => (fun _ => False) r ∨ r = w.heap.size) 0 W1 := hI.one h0 (Mem.grown_of_below hbW none) _ (Nat.le_refl _) (by omega)
  have hb1 : Below w0.heap.size w0 W1 := hb0.trans (hbW.mono hb0.size)
  have hlN : ¬ Nd w.heap.size := fun hr => by have := hNd _ hr; omega
  refine ⟨w.heap.size, [], W1, { target := .fn (.func gf) lb, args := #[.func (.yield w.heap.size) #[] #[]] }, W1, gf,
    #[.func (.yield w.heap.size) #[] #[]] ++ lb, W1, run_enterLoop_inner hl₀ _ _ _ _ _, by simp only [resolve, hg]; simp [go_sem],
    fun f' hf' => by simp [Target.leads] at hf'; subst hf'; exact hFg, by simp [invoke, go_sem, eg], fun _ => h1, ?_⟩
  have more : ∀ {J : (Nat → Prop) → Nat → World → Prop}, Stay J → ∀ {pv pv' : Nat → Prop} {s : Nat} {A B : World}, J (fun r => pv r ∨ r = w.heap.size) s A → A.grownBy B none → (∀ r, pv r → pv' r) → (∀ r, pv' r → pv r ∨ (A.heap.size ≤ r ∧ r < B.heap.size)) → J (fun r => pv' r ∨ r = w.heap.size) s B := by
    intro J hJ pv pv' s A B h hg' h1 h2
    exact hJ.new _ _ s A B h hg' (fun r hr => hr.elim (fun h => .inl (h1 r h)) .inr) (fun r hr => hr.elim (fun h => (h2 r h).elim (fun h => .inl (.inl h)) .inr) (fun h => .inl (.inr h)))
  have keep : ∀ {A B : World} {row : Option Nat} (i : Nat) (o : Obj), A.heap[i]? = some o → A.grownBy B row → (∀ r, row = some r → r ≠ i) → B.heap[i]? = some o := by
    intro A B row i o ho hg' hr
    exact (hg'.block i (Array.getElem?_eq_some_iff.1 ho).1 (fun e => hr i e.symm rfl)).trans ho
  refine (hseq w.heap.size (fun pv k W => (I (fun r => pv r ∨ r = w.heap.size) k W ∧ ¬ pv w.heap.size) ∧ W.heap[w.heap.size]? = some (.loop (rec0 .ready none)))
    (fun pv k W => (∃ c, Ix c (fun r => pv r ∨ r = w.heap.size) k W ∧ W.heap[w.heap.size]? = some (.loop (rec0 .done (some c)))) ∧ ¬ pv w.heap.size) W1 hb1
    ⟨fun pv pv' s A B hs hg' h1 h2 => ⟨⟨more hI hs.1.1 hg' h1 h2, fun hp => (h2 _ hp).elim hs.1.2 (fun h => by
        have hlt := (Array.getElem?_eq_some_iff.1 hs.2).1
        omega)⟩, keep _ _ hs.2 hg' (fun r e => by cases e)⟩,
     fun pv s A B r hs hp hg' => ⟨⟨hI.put _ s A B r hs.1.1 (.inl hp) hg', hs.1.2⟩, keep _ _ hs.2 hg' (fun r' e => by injection e with e; subst e; rintro rfl; exact hs.1.2 hp)⟩⟩
    ⟨fun pv pv' s A B hs hg' h1 h2 => by
        obtain ⟨⟨c, hc, hl⟩, hn⟩ := hs
        have hlt := (Array.getElem?_eq_some_iff.1 hl).1
        exact ⟨⟨c, more (hIx c) hc hg' h1 h2, keep _ _ hl hg' (fun r e => by cases e)⟩, fun hp => (h2 _ hp).elim hn (fun h => by omega)⟩,
     fun pv s A B r hs hp hg' => by
        obtain ⟨⟨c, hc, hl⟩, hn⟩ := hs
        exact ⟨⟨c, (hIx c).put _ s A B r hc (.inl hp) hg', keep _ _ hl hg' (fun r' e => by injection e with e; subst e; rintro rfl; exact hn hp)⟩, hn⟩⟩
    ?_ ⟨⟨hi1, fun h => h⟩, hl1⟩).mono ?_
  · rintro pv k x W ⟨⟨hi, hn⟩, hl⟩ hat
    have hlt : w.heap.size < W.heap.size := (Array.getElem?_eq_some_iff.1 hl).1
    have hy := run_yield (P := P) (args := encs x) hl (hps x)
    have hsub : ∀ r, (Nd r ∨ pv r) → (Nd r ∨ (pv r ∨ r = w.heap.size)) := fun r h => h.elim .inl (fun h => .inr (.inl h))
    have hpl : ¬ (Nd w.heap.size ∨ pv w.heap.size) := fun h => h.elim hlN hn
    have kput : ∀ (A : World) (o : Obj), KeepsP (fun r => Nd r ∨ pv r) A (A.putObj w.heap.size o) := fun A o => KeepsP.of_grown (grownBy_putObj' A _ o) (fun r e h => by injection e with e; subst e; exact hpl h)
    refine ⟨fn, _, assign, body, hy, roundIn_of_wpIn hfn (hassign _ _ k x W _ (.inr rfl) hi hat ?_)⟩
    intro a' W2 hk2 hib
    have hl2 := hk2.block _ _ (.inr (.inr rfl)) hl
    have hlt2 : w.heap.size < W2.heap.size := (Array.getElem?_eq_some_iff.1 hl2).1
    refine ⟨_, run_beginRound hl2 rfl, ?_⟩
    have hl3 : (W2.putObj w.heap.size (.loop { rec0 .ready none with state := .busy })).heap[w.heap.size]? = some (.loop { rec0 .ready none with state := .busy }) := World.putObj_heap_same hlt2
    have hk3 : KeepsP (fun r => Nd r ∨ pv r) W (W2.putObj w.heap.size (.loop { rec0 .ready none with state := .busy })) := (hk2.less hsub).trans (kput _ _)
    refine wpIn_mono (hbody _ _ k x a' _ (.inr rfl) ⟨_, hl3⟩ (hIb _ k x a' _ _ w.heap.size hib (.inr rfl) (grownBy_putObj' W2 _ _)) hat) ?_
    intro e a3 W4 hp
    have fin : ∀ (jump : Code), KeepsP (fun r => Nd r ∨ (pv r ∨ r = w.heap.size)) (W2.putObj w.heap.size (.loop { rec0 .ready none with state := .busy })) W4 → Ix jump (fun r => pv r ∨ r = w.heap.size) (k + 1) W4 →
        ∃ v w', (Instr.endRound w.heap.size (some jump)).run P W4 = .ok v w' ∧ KeepsP (fun r => Nd r ∨ pv r) W w' ∧ Ending.returned v = .returned (.bool false) ∧
          ((∃ c, Ix c (fun r => pv r ∨ r = w.heap.size) (k + 1) w' ∧ w'.heap[w.heap.size]? = some (.loop (rec0 .done (some c)))) ∧ ¬ pv w.heap.size) := fun jump hk4 hi4 => by
      have hl4 := hk4.block _ _ (.inr (.inr rfl)) hl3
      have hlt4 : w.heap.size < W4.heap.size := (Array.getElem?_eq_some_iff.1 hl4).1
      exact ⟨_, _, run_endRound (P := P) (some jump) hl4, (hk3.trans (hk4.less hsub)).trans (kput _ _), rfl, ⟨jump, (hIx _).put _ _ _ _ _ hi4 (.inr rfl) (grownBy_putObj' W4 _ _), World.putObj_heap_same hlt4⟩, hn⟩
    cases e with
    | normal =>
      obtain ⟨hk4, hi4⟩ := hp
      have hl4 := hk4.block _ _ (.inr (.inr rfl)) hl3
      have hlt4 : w.heap.size < W4.heap.size := (Array.getElem?_eq_some_iff.1 hl4).1
      exact ⟨_, _, run_endRound (P := P) none hl4, (hk3.trans (hk4.less hsub)).trans (kput _ _), .inl ⟨rfl, ⟨hI.put _ _ _ _ _ hi4 (.inr rfl) (grownBy_putObj' W4 _ _), hn⟩, World.putObj_heap_same hlt4⟩⟩
    | ret => obtain ⟨v, w', hr, e0, e1, e2⟩ := fin .ret hp.1 hp.2; exact ⟨v, w', hr, e0, .inr ⟨e1, e2⟩⟩
    | exit id => obtain ⟨v, w', hr, e0, e1, e2⟩ := fin (.exit id) hp.1 hp.2; exact ⟨v, w', hr, e0, .inr ⟨e1, e2⟩⟩
    | goto t => obtain ⟨v, w', hr, e0, e1, e2⟩ := fin (.goto t) hp.1 hp.2; exact ⟨v, w', hr, e0, .inr ⟨e1, e2⟩⟩
    | panic ch => exact hp.elim
    | outgrown => exact hp.elim
  · rintro e W2 ⟨⟨v, rfl⟩, (⟨pv, k, hk, ⟨hi, hn⟩, hl⟩ | ⟨pv, k, ⟨c, hi, hl⟩, hn⟩)⟩
    · exact ⟨none, _, run_endLoop (P := P) hl (by simp [rec0]), hdone _ k _ hk (hI.put _ _ _ _ _ hi (.inr rfl) (grownBy_putObj' W2 _ _))⟩
    · exact ⟨some c, _, run_endLoop (P := P) hl (by simp [rec0]), hstop c _ k _ ((hIx c).put _ _ _ _ _ hi (.inr rfl) (grownBy_putObj' W2 _ _))⟩
end Go.Proofs.YtipmfficjomcoaaDoor.Range
namespace Go.Proofs.YtipmfficjomcoaaDoor.Sh
open Go.RowKit Go.Shelf Mem Held Go.Proofs.YtipmfficjomcoaaDoor.Range Sl
attribute [local go_sem] Oper.semAt_some
attribute [local irreducible] wpList wpListIn Calls
set_option maxRecDepth 100000 in
set_option maxHeartbeats 4000000 in
theorem size_any (K : Int) (I mp M T c : Nat) (h : JobP K I mp M T) (h1 : 1 ≤ c) (h5 : c ≤ 5) (w : World) :
    Calls Tryd.prog 56 #[.agg #[.int .i64 K, .int .i64 (I : Int), .int .i64 (M : Int)], .int .i64 (c : Int)] w fun e w' => e = .returned (.int .i64 (szK I mp M c : Int)) ∧ Below w.heap.size w w' := by
  have HS := Lib.hid (show IntKind.i64.wrap ((M : Int) - (mp : Int)) = ((M - mp : Nat) : Int) by
    have := h.le
    have := h.m32
    rw [IntKind.wrap_i64]
    omega)
  have HQ : IntKind.i64.wrap (Int.tdiv (M : Int) 2) = ((M / 2 : Nat) : Int) := by
    rw [Int.tdiv_eq_ediv_of_nonneg (by omega), IntKind.wrap_i64]
    have := h.m32
    omega
  have hq := fun W => Held.run_quo (P := Tryd.prog) 3 .i64 (a := (M : Int)) (b := 2) (r := ((M / 2 : Nat) : Int)) (by omega) HQ W
  clear HQ
  have hc : c = 1 ∨ c = 2 ∨ c = 3 ∨ c = 4 ∨ c = 5 := by omega
  rcases hc with rfl | rfl | rfl | rfl | rfl
  · rw [show szK I mp M 1 = I from rfl]
    go_enter Tryd.func56, Tryd.ntmps56
    go_wp2_with (first
      | (refine wpList_box_blk (w := w) rfl 62 _ rfl _ rfl ?_; intro u1 qu1 gu1 zu1; have bo1 : Below w.heap.size w u1 := (Below.refl _ w).grown gu1 (Nat.le_refl _) (by simp); have hc1 := qu1.cell (i := 1) rfl; have hc2 := qu1.cell (i := 2) rfl; clear gu1 zu1)
      | (refine wpList_fld0 (w := u1) rfl rfl rfl Tryd.underlying62 rfl (by kernel_rfl) ?_))
    go_ret
    exact ⟨rfl, bo1⟩
  · rw [show szK I mp M 2 = M - mp from rfl]
    go_enter Tryd.func56, Tryd.ntmps56
    go_wp2_with (first
      | (refine wpList_box_blk (w := w) rfl 62 _ rfl _ rfl ?_; intro u1 qu1 gu1 zu1; have bo1 : Below w.heap.size w u1 := (Below.refl _ w).grown gu1 (Nat.le_refl _) (by simp); have hc1 := qu1.cell (i := 1) rfl; have hc2 := qu1.cell (i := 2) rfl; clear gu1 zu1))
    refine wp_region_held (S := fun W => Below u1.heap.size u1 W) (by kernel_rfl) ?_
    change wpAnyH _ _ _ _ _ _ _ _ u1.drew
    have c0_0 := (Below.refl u1.heap.size u1).drew
    refine Held.tk (v := .pointer (some ⟨w.heap.size, 2, none⟩)) 0 (some 12) rfl (Held.y_field (k := 2) (s := 0) rfl rfl Tryd.underlying62 rfl (by kernel_rfl) rfl) c0_0 ?_
    simp only [Act.put, Z1, Z2, Z3]
    refine Held.tk (v := .int .i64 (M : Int)) 1 (some 13) rfl (Held.y_load rfl rfl (by kernel_rfl) (fun W hW => (qu1.after hW).cell rfl)) c0_0 ?_
    simp only [Act.put, Z1, Z2, Z3]
    refine Held.tk (v := .agg #[.int .i64 K, .int .i64 (I : Int), .int .i64 (M : Int)]) 2 (some 14) rfl (Held.y_load_blk (n := 3) rfl rfl Tryd.underlying62 rfl (by kernel_rfl) rfl (fun W hW => qu1.after hW)) c0_0 ?_
    simp only [Act.put, Z1, Z2, Z3]
    refine Held.one 3 (by kernel_rfl) ?_
    refine Held.op_call 3 (some 15) 66 #[.agg #[.int .i64 K, .int .i64 (I : Int), .int .i64 (M : Int)]] rfl rfl rfl rfl (enters_of Tryd.func66 (by kernel_rfl) rfl) (by simp [Act.eval])
      (mapped_any K I mp M T h _) ?_
    rintro e w1 ⟨rfl, b1⟩
    have c0_1 := c0_0.trans (b1.mono c0_0.size)
    refine ⟨_, rfl, c0_1, ?_⟩
    simp only [Act.put, Z1, Z2, Z3]
    refine Held.tk (v := .int .i64 (((M - mp : Nat) : Int))) 4 (some 16) rfl (Held.y_int rfl rfl rfl (Held.run_sub 3 .i64 (HS.out))) c0_1 ?_
    simp only [Act.put, Z1, Z2, Z3]
    refine Held.tk (v := .int .i64 (((M - mp : Nat) : Int))) 5 (some 4) rfl (Held.y_assign rfl rfl) c0_1 ?_
    simp only [Act.put, Z1, Z2, Z3]
    refine wpAnyH_done (by kernel_rfl) ?_ _
    have bz := bo1.trans (c0_1.mono bo1.size)
    go_wp2_with fail
    go_ret
    exact ⟨rfl, bz⟩
  · rw [show szK I mp M 3 = M / 2 from rfl]
    go_enter Tryd.func56, Tryd.ntmps56
    go_wp2_with (first
      | (refine wpList_box_blk (w := w) rfl 62 _ rfl _ rfl ?_; intro u1 qu1 gu1 zu1; have bo1 : Below w.heap.size w u1 := (Below.refl _ w).grown gu1 (Nat.le_refl _) (by simp); have hc1 := qu1.cell (i := 1) rfl; have hc2 := qu1.cell (i := 2) rfl; clear gu1 zu1)
      | (refine wpList_fld0 (w := u1) rfl rfl rfl Tryd.underlying62 rfl (by kernel_rfl) ?_)
      | (refine Held.wpList_run (w := u1) rfl (v := .int .i64 ((M / 2 : Nat) : Int)) (Held.y_int (S := fun _ => True) rfl rfl rfl hq _ trivial) ?_))
    go_ret
    exact ⟨rfl, bo1⟩
  · rw [show szK I mp M 4 = M from rfl]
    go_enter Tryd.func56, Tryd.ntmps56
    go_wp2_with (first
      | (refine wpList_box_blk (w := w) rfl 62 _ rfl _ rfl ?_; intro u1 qu1 gu1 zu1; have bo1 : Below w.heap.size w u1 := (Below.refl _ w).grown gu1 (Nat.le_refl _) (by simp); have hc1 := qu1.cell (i := 1) rfl; have hc2 := qu1.cell (i := 2) rfl; clear gu1 zu1)
      | (refine wpList_fld0 (w := u1) rfl rfl rfl Tryd.underlying62 rfl (by kernel_rfl) ?_))
    go_ret
    exact ⟨rfl, bo1⟩
  · rw [show szK I mp M 5 = M / 2 from rfl]
    go_enter Tryd.func56, Tryd.ntmps56
    go_wp2_with (first
      | (refine wpList_box_blk (w := w) rfl 62 _ rfl _ rfl ?_; intro u1 qu1 gu1 zu1; have bo1 : Below w.heap.size w u1 := (Below.refl _ w).grown gu1 (Nat.le_refl _) (by simp); have hc1 := qu1.cell (i := 1) rfl; have hc2 := qu1.cell (i := 2) rfl; clear gu1 zu1)
      | (refine wpList_fld0 (w := u1) rfl rfl rfl Tryd.underlying62 rfl (by kernel_rfl) ?_)
      | (refine Held.wpList_run (w := u1) rfl (v := .int .i64 ((M / 2 : Nat) : Int)) (Held.y_int (S := fun _ => True) rfl rfl rfl hq _ trivial) ?_))
    go_ret
    exact ⟨rfl, bo1⟩
set_option maxRecDepth 100000 in
set_option maxHeartbeats 4000000 in
theorem groups_any (K : Int) (I M : Nat) (w : World) :
    Calls Tryd.prog 34 #[.agg #[.int .i64 K, .int .i64 (I : Int), .int .i64 (M : Int)]] w fun e w' => ∃ bj : Nat, e = .returned (.func (.func 54) #[] #[.pointer (some ⟨bj, 0, none⟩)]) ∧ Blk w' bj 62 #[.int .i64 K, .int .i64 (I : Int), .int .i64 (M : Int)] ∧ w.heap.size ≤ bj ∧ Below w.heap.size w w' := by
  go_enter Tryd.func34, Tryd.ntmps34
  go_wp2_with (first
    | (refine wpList_box_blk (w := w) rfl 62 _ rfl _ rfl ?_; intro u1 qu1 gu1 zu1))
  go_ret
  exact ⟨_, rfl, qu1, Nat.le_refl _, (Below.refl _ w).grown gu1 (Nat.le_refl _) (by simp)⟩
theorem kp_blk {S : Nat → Prop} {W W' : World} (h : KeepsP S W W') {g : Nat} {t : TypeId} {cs : Array Value} (hb : Blk W g t cs) (hg : S g) : Blk W' g t cs := h.block g _ hg hb
theorem kp_tz {S : Nat → Prop} {W W' : World} (h : KeepsP S W W') (hT : Bi.TzT W) (hg : S 1) : Bi.TzT W' := by
  obtain ⟨t, fr, e⟩ := hT
  exact ⟨t, fr, h.block _ _ hg e⟩
theorem to_says {T c : Nat} (h1 : 1 ≤ c) (h5 : c ≤ 5) (i : Nat) : ((frK c : Int) + (i : Int) ≤ ((if c = 3 ∨ c = 5 then T else 0 : Nat) : Int)) ↔ i < nrK T c := by
  unfold frK nrK
  split <;> simp <;> omega
theorem ix_step (T : Nat) {c : Nat} (h1 : 1 ≤ c) : ixK T (c + 1) = ixK T c + nrK T c := by
  cases c with
  | zero => omega
  | succ c => rfl
theorem cn_step (I mp M T : Nat) {c : Nat} (h1 : 1 ≤ c) : cnK I mp M T (c + 1) = cnK I mp M T c + nrK T c * szK I mp M c := by
  cases c with
  | zero => omega
  | succ c => rfl
theorem cn_le {K : Int} {I mp M T : Nat} (h : JobP K I mp M T) {c : Nat} (h5 : c ≤ 6) : cnK I mp M T c ≤ 1000 := by
  have h1 := h.le
  have h2 := h.m32
  have h3 := h.i32
  have h4 := h.t15
  have hm : T * (M / 2) ≤ 15 * 16 := Nat.mul_le_mul h4 (by omega)
  have hc : c = 0 ∨ c = 1 ∨ c = 2 ∨ c = 3 ∨ c = 4 ∨ c = 5 ∨ c = 6 := by omega
  rcases hc with rfl | rfl | rfl | rfl | rfl | rfl | rfl <;> simp [cnK, nrK, szK] <;> omega
theorem fr_le (c : Nat) : frK c ≤ 1 := by unfold frK; split <;> omega
theorem sz_le {K : Int} {I mp M T : Nat} (h : JobP K I mp M T) (c : Nat) : szK I mp M c ≤ 32 := by
  have h1 := h.le
  have h2 := h.m32
  have h3 := h.i32
  unfold szK
  split
  · omega
  · split
    · omega
    · split <;> omega
theorem nr_le {K : Int} {I mp M T : Nat} (h : JobP K I mp M T) (c : Nat) : nrK T c ≤ 15 := by
  have h4 := h.t15
  unfold nrK
  split <;> omega
def grV (g : Gr) : Value := .agg #[.int .i64 g.kd, .int .i64 g.rd, .int .i64 (g.sz : Int), .int .i64 (g.fi : Int)]
set_option maxRecDepth 100000 in
set_option maxHeartbeats 8000000 in
theorem groups_p (N bj : Nat) (K : Int) (I mp M T : Nat) (h : JobP K I mp M T) (w : World) (q : Blk w bj 62 #[.int .i64 K, .int .i64 (I : Int), .int .i64 (M : Int)]) (hT : Bi.TzT w) :
    SeqP Fence.wide N Tryd.prog 54 #[.pointer (some ⟨bj, 0, none⟩)] (fun r => r = bj ∨ r = 1) (fun g => #[grV g]) (fun k => (grs I mp M T)[k]?) w := by
  intro l J Jx W hW hJ hJx hY h0
  have hTW := hT.below hW hT.lt
  have q := q.after hW
  have HTO := Lib.hid (fun (c : Nat) (h1 : 1 ≤ c) (h5 : c ≤ 5) (W : World) hT => roundsOf_any K I mp M T c h h1 h5 W hT)
  have HSZ := Lib.hid (fun (c : Nat) (h1 : 1 ≤ c) (h5 : c ≤ 5) (W : World) => size_any K I mp M T c h h1 h5 W)
  have HAT := Lib.hid (fun (c i : Nat) (h1 : 1 ≤ c) (h5 : c ≤ 5) (hi : i < nrK T c) => grs_at (I := I) (mp := mp) (M := M) h1 h5 hi)
  have HEN := Lib.hid (grs_end (I := I) (mp := mp) (M := M) (T := T))
  have HCN := Lib.hid (fun (c : Nat) (h5 : c ≤ 6) => cn_le h h5)
  have HSL := Lib.hid (fun (c : Nat) => sz_le h c)
  have HNL := Lib.hid (fun (c : Nat) => nr_le h c)
  have HY := Lib.hid (fun (pv : Nat → Prop) (c i : Nat) (W1 : World) (h1 : 1 ≤ c) (h5 : c ≤ 5) (hi : i < nrK T c) (hJk : J pv (ixK T c + i) W1) => hY pv (ixK T c + i) (grK I mp M T c i) W1 hJk (HAT.out c i h1 h5 hi))
  clear hY h hW HAT
  refine callsIn_of_wp Tryd.func54 rfl trivial ?_ rfl
  simp only [Tryd.ntmps54, List.size_toArray, List.length_cons, List.length_nil, Nat.reduceAdd, Nat.reduceSub, Array.replicate_succ, Array.replicate_zero, List.push_toArray, List.append_toArray, List.nil_append, List.cons_append]
  gi_wp2_with fail
  gi_loopw [3, 4] (fun n c wr => ∃ (k : Nat) (pv : Nat → Prop), 1 ≤ k ∧ k ≤ 6 ∧ c = .int .i64 (k : Int) ∧ n = .int .i64 (cnK I mp M T k : Int) ∧ J pv (ixK T k) wr ∧ Blk wr bj 62 #[.int .i64 K, .int .i64 (I : Int), .int .i64 (M : Int)] ∧ Bi.TzT wr) (fun _ c _ => 6 - (intOf c).toNat)
  case atStart => exact ⟨1, _, by omega, by omega, rfl, rfl, h0, q, hTW⟩
  case round =>
    clear h0 q hTW
    obtain ⟨k, pv, hk1, hk6, rfl, rfl, Jk, q, hTk⟩ := hrel
    by_cases hlt : k ≤ 5
    · have hlt' : (k : Int) ≤ 5 := by omega
      gi_wp2_with (first
        | (refine Held.wpListIn_one (r := none) rfl (by intro c e; cases e) ?_; refine wpList_load_blk (w := wr) rfl 62 _ rfl (bj) 3 rfl 62 _ q _ Tryd.underlying62 rfl (by kernel_rfl) rfl ?_; refine wpList_nil ⟨rfl, ?_⟩))
      refine ⟨trivial, fun h => (by cases h), ?_⟩
      refine (callsIn_wide.2 (HTO.out k hk1 hlt wr hTk)).mono ?_
      rintro e w2 ⟨rfl, b2⟩
      have J2 := hJ.below Jk b2
      have q2 := q.after b2
      have hT2 := hTk.below b2 hTk.lt
      have HF := Lib.hid (fun i => to_says (T := T) hk1 hlt i)
      obtain ⟨to, hto⟩ : ∃ to : Nat, (if k = 3 ∨ k = 5 then T else 0) = to := ⟨_, rfl⟩
      rw [hto] at HF ⊢
      have HFR := Lib.hid (fr_le k)
      clear hto Jk q hTk b2 hlt'
      gi_wp2_with fail
      gi_loopw [3, 7] (fun n r wi => ∃ (i c : Nat) (pv : Nat → Prop), i ≤ nrK T k ∧ Hid (cnK I mp M T k + i * szK I mp M k = c) ∧ r = .int .i64 ((frK k : Int) + (i : Int)) ∧ n = .int .i64 (c : Int) ∧ J pv (ixK T k + i) wi ∧ Blk wi bj 62 #[.int .i64 K, .int .i64 (I : Int), .int .i64 (M : Int)] ∧ Bi.TzT wi) (fun _ r _ => 100 - (intOf r).toNat)
      case atStart => exact ⟨0, _, pv, by omega, Lib.hid (by simp), by simp, rfl, J2, q2, hT2⟩
      case round =>
        clear J2 q2 hT2
        obtain ⟨i, c, pv, hi, HC, rfl, rfl, Ji, q, hTi⟩ := hrel
        have hi15 := HNL.out k
        have hfr := HFR.out
        by_cases hin : i < nrK T k
        · have hle : (frK k : Int) + (i : Int) ≤ (to : Int) := (HF.out i).2 hin
          have hadd : IntKind.i64.wrap ((frK k : Int) + (i : Int) + 1) = (frK k : Int) + (i : Int) + 1 := by rw [IntKind.wrap_i64]; omega
          gi_wp2_with (first
            | (refine Held.wpListIn_one (r := none) rfl (by intro c e; cases e) ?_; refine wpList_load_blk (w := wr) rfl 62 _ rfl (bj) 3 rfl 62 _ q _ Tryd.underlying62 rfl (by kernel_rfl) rfl ?_; refine wpList_nil ⟨rfl, ?_⟩))
          refine ⟨trivial, fun h => (by cases h), ?_⟩
          refine (callsIn_wide.2 (HSZ.out k hk1 hlt wr)).mono ?_
          rintro e w3 ⟨rfl, b3⟩
          have q3 := q.after b3
          have hT3 := hTi.below b3 hTi.lt
          obtain ⟨z, hz⟩ : ∃ z, szK I mp M k = z := ⟨_, rfl⟩
          have hc := HC.out
          have HZ := Lib.hid hz
          have hgr := Lib.hid (show grV (grK I mp M T k i) = .agg #[.int .i64 (k : Int), .int .i64 ((frK k : Int) + (i : Int)), .int .i64 (z : Int), .int .i64 (c : Int)] by
            unfold grV grK
            rw [hc, hz]
            simp)
          rw [hz] at hc ⊢
          have hzl := HSL.out k
          have hcl := HCN.out k (by omega)
          rw [hz] at hzl
          have hc3 : c ≤ 3000 := by
            rw [← hc]
            have := Nat.mul_le_mul (show i ≤ 15 by omega) hzl
            omega
          have hsum : IntKind.i64.wrap ((c : Int) + (z : Int)) = (c : Int) + (z : Int) := by rw [IntKind.wrap_i64]; omega
          clear hz hc
          gi_wp2_with (first
            | (refine Held.wpListIn_one (r := none) rfl (by intro c e; cases e) ?_; refine wpList_build_blk rfl 68 #[_, _, _, _] rfl #[.int .i64 (k : Int), .int .i64 ((frK k : Int) + (i : Int)), .int .i64 (z : Int), .int .i64 (c : Int)] (by kernel_rfl) ?_; refine wpList_nil ⟨rfl, ?_⟩)
            | (refine Held.wpListIn_one (r := none) rfl (by intro c e; cases e) ?_; refine wpList_alloc_blk (w := w3) rfl 68 rfl #[.int .i64 0, .int .i64 0, .int .i64 0, .int .i64 0] (by kernel_rfl) ?_; intro u4 qu4 gu4 zu4; have hb4 : Below w3.heap.size w3 u4 := (Below.refl _ w3).grown gu4 (Nat.le_refl _) (by simp); refine wpList_nil ⟨rfl, ?_⟩)
            | (refine Held.wpListIn_one (r := none) rfl (by intro c e; cases e) ?_; refine wpList_store_blk (w := u4) rfl 68 _ _ rfl (w3.heap.size) 4 rfl 68 _ #[.int .i64 (k : Int), .int .i64 ((frK k : Int) + (i : Int)), .int .i64 (z : Int), .int .i64 (c : Int)] rfl qu4 (by kernel_rfl) rfl rfl (by kernel_rfl) ?_; intro u5 qu5 gu5 zu5; have hb5 : Below w3.heap.size w3 u5 := hb4.grown gu5 hb4.size (fun r e => by cases e; exact Nat.le_refl _); have hb6 := b3.trans (hb5.mono b3.size); have J5 := hJ.all Ji hb6; obtain ⟨fn, tmps, assign, body, hy, hR⟩ := HY.out _ k i u5 hk1 hlt hin J5; rw [hgr.out] at hy; have hy : (Instr.yield l #[.agg #[.int .i64 (k : Int), .int .i64 ((frK k : Int) + (i : Int)), .int .i64 (z : Int), .int .i64 (c : Int)]]).run Tryd.prog u5 = .ok (.round l fn tmps assign body) u5 := hy; refine wpList_nil ⟨rfl, ?_⟩)
            | (refine Held.wpListIn_one (r := none) rfl (by intro c e; cases e) ?_; refine wpList_load_blk (w := u5) rfl 68 _ rfl (w3.heap.size) 4 rfl 68 _ qu5 _ Tryd.underlying68 rfl (by kernel_rfl) rfl ?_; refine wpList_nil ⟨rfl, ?_⟩))
          have q5 := q3.after hb5
          have hT5 := hT3.below hb5 hT3.lt
          have hg5 : (wr.heap.size ≤ w3.heap.size ∧ w3.heap.size < u5.heap.size) := ⟨b3.size, qu5.lt⟩
          obtain ⟨gg, hgg⟩ : ∃ gg, w3.heap.size = gg := ⟨_, rfl⟩
          rw [hgg] at qu5 hg5 ⊢
          clear hgg gu4 gu5 zu4 zu5 qu4 hb4 hb5 hb6 q3 hT3 b3 Ji J5
          refine ⟨fun h => (by cases h), ?_⟩
          refine hR.mono ?_
          rintro e w6 ⟨kp, (⟨rfl, J6⟩ | ⟨rfl, x6⟩)⟩
          · have q6 := kp_blk kp q5 (.inl (.inl rfl))
            have hT6 := kp_tz kp hT5 (.inl (.inr rfl))
            have qg := kp_blk kp qu5 (.inr (.inr hg5))
            have cg := qg.cell (i := 2) rfl
            clear hR hy q5 hT5 qu5 kp hg5 q hTi
            gi_wp2_with (first
              | (refine Held.wpListIn_one (r := none) rfl (by intro c e; cases e) ?_; refine wpList_fld0 (w := w6) rfl rfl rfl Tryd.underlying68 rfl (by kernel_rfl) ?_; refine wpList_nil ⟨rfl, ?_⟩))
            go_roundw
            case rel => exact ⟨i + 1, c + z, _, by omega, Lib.hid (by rw [Nat.add_mul, Nat.one_mul, ← Nat.add_assoc, HC.out, HZ.out]), by go_num, by go_num, J6, q6, hT6⟩
            case measure => simp [intOf]; omega
          · gi_wp2_with fail
            exact bodyPost_ret (results_none rfl _ _ _) rfl ⟨⟨_, rfl⟩, .inr ⟨_, _, x6⟩⟩
        · obtain rfl : i = nrK T k := by omega
          have hle : ¬ (frK k : Int) + ((nrK T k : Nat) : Int) ≤ (to : Int) := fun hx => hin ((HF.out _).1 hx)
          have hadd : IntKind.i64.wrap ((k : Int) + 1) = (k : Int) + 1 := by rw [IntKind.wrap_i64]; omega
          rw [← ix_step T hk1] at Ji
          obtain rfl : cnK I mp M T (k + 1) = c := by rw [cn_step I mp M T hk1]; exact HC.out
          gi_wp2_with fail
          go_roundw
          case rel => exact ⟨k + 1, _, by omega, by omega, by go_num, rfl, Ji, q, hTi⟩
          case measure => simp [intOf]; omega
    · obtain rfl : k = 6 := by omega
      gi_wp2_with fail
      go_end0
      exact ⟨⟨_, rfl⟩, .inl ⟨_, _, HEN.out, Jk⟩⟩
end Go.Proofs.YtipmfficjomcoaaDoor.Sh
