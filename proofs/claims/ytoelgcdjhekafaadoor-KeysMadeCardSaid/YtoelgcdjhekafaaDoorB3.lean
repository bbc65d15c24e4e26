/-
  The function padded of package sha by its contract. Conditions: at most 2^30 parts, of at most 2^40 bytes together.
  A range over a function whose iterator keeps cells of its own, and whose body never leaves early: what the iterator is told of the rounds, and what the loop owes: no program here. No conditions beyond those stated.
  Arrays in boxes, read, stored and copied into, within a fence; what an iterator's round keeps: no program here. No conditions beyond those stated.
  The iterator over a message's blocks of package sha, by its contract: it hands out just the blocks, one by one. Conditions: at most 2^30 parts, of at most 2^40 bytes together.
-/
import Derived.Test.YtoelgcdjhekafaaDoorB2
import Derived.RangeFuncNested
import Derived.RangeFuncBound
import Derived.RangeFuncCalls
import Derived.RangeFuncLeaves
import Derived.Shelf.Abstract
import Derived.Shelf.RegionOpen
import Derived.WalkKit
import Derived.OwnWalkIn
import Derived.TacticsInMore
import Derived.LoopNIn
import Derived.LoopIn
import Derived.Laws.CopyOwn
namespace Go.Proofs.YtoelgcdjhekafaaDoor.Sha
open Go.RowKit Go.Proofs.YtoelgcdjhekafaaDoor.Mem Go.Proofs.YtoelgcdjhekafaaDoor.Help Go.Proofs.YtoelgcdjhekafaaDoor.Sum
set_option linter.unusedVariables false

/-- the values vs are slices that read as the texts xss -/
def Texts (w : World) (B : Nat) (vs : List Value) (xss : List (List Int)) : Prop :=
  vs.length = xss.length ∧ ∀ i, i < vs.length → ∃ A n c, vs.getD i undef = .slice A n c ∧ n ≤ c ∧ c ≤ maxLen ∧ Ints w .u8 B A n (xss.getD i [])
section
variable {w w' : World} {B B' : Nat} {vs us : List Value} {xss yss : List (List Int)}
theorem Texts.below (h : Texts w B vs xss) (hb : Below B w w') : Texts w' B vs xss := ⟨h.1, fun i hi => by obtain ⟨A, n, c, e, h1, h2, hh⟩ := h.2 i hi; exact ⟨A, n, c, e, h1, h2, hh.below hb⟩⟩
theorem Texts.more (h : Texts w B vs xss) (hB : B ≤ B') : Texts w B' vs xss := ⟨h.1, fun i hi => by obtain ⟨A, n, c, e, h1, h2, hh⟩ := h.2 i hi; exact ⟨A, n, c, e, h1, h2, hh.more hB⟩⟩
theorem Texts.keep (h : Texts w B vs xss) (hk : ∀ p : Addr, p.block < B → w'.cell? p = w.cell? p) : Texts w' B vs xss := ⟨h.1, fun i hi => by obtain ⟨A, n, c, e, h1, h2, hh⟩ := h.2 i hi; exact ⟨A, n, c, e, h1, h2, hh.keep hk⟩⟩
theorem Texts.nil (w : World) (B : Nat) : Texts w B [] [] := ⟨rfl, fun i hi => by simp at hi⟩
theorem Texts.append (h : Texts w B vs xss) (k : Texts w B us yss) : Texts w B (vs ++ us) (xss ++ yss) := by
  refine ⟨by simp [h.1, k.1], fun i hi => ?_⟩
  by_cases q : i < vs.length
  · have := h.2 i q
    simp only [List.getD_eq_getElem?_getD] at this ⊢
    rw [List.getElem?_append_left q, List.getElem?_append_left (by rw [← h.1]; exact q)]
    exact this
  · rw [List.length_append] at hi
    have := k.2 (i - vs.length) (by omega)
    simp only [List.getD_eq_getElem?_getD] at this ⊢
    rw [List.getElem?_append_right (by omega), List.getElem?_append_right (by rw [← h.1]; omega), ← h.1]
    exact this
theorem Texts.one {A : Option Addr} {n c : Nat} {xs : List Int} (h : Ints w .u8 B A n xs) (h1 : n ≤ c) (h2 : c ≤ maxLen) : Texts w B [.slice A n c] [xs] :=
  ⟨rfl, fun i hi => by
    have : i = 0 := by simpa using hi
    subst this
    exact ⟨A, n, c, rfl, h1, h2, h⟩⟩
theorem Texts.one_cell (h : Texts w B vs xss) : ∀ v ∈ vs, v.oneCell' = true := fun v hv => by
  obtain ⟨i, hi, rfl⟩ := List.mem_iff_getElem.1 hv
  obtain ⟨A, n, c, e, _⟩ := h.2 i hi
  rw [List.getD_eq_getElem?_getD, List.getElem?_eq_getElem hi] at e
  simp only [Option.getD_some] at e
  rw [e]; rfl
end

theorem flat_take (xss : List (List Int)) {k : Nat} (h : k < xss.length) : (xss.take (k + 1)).flatten.length = (xss.take k).flatten.length + (xss.getD k []).length := by
  rw [List.take_add_one, List.getElem?_eq_getElem h, List.flatten_append, List.length_append]
  simp [List.getD_eq_getElem?_getD, h]
theorem flat_le (xss : List (List Int)) (k : Nat) : (xss.take k).flatten.length ≤ xss.flatten.length := by
  have := congrArg List.length (congrArg List.flatten (List.take_append_drop k xss))
  rw [List.flatten_append, List.length_append] at this
  omega

theorem padded_any (B : Nat) (A : Option Addr) (m c : Nat) (vs : List Value) (xss : List (List Int)) (w : World) (h : Vals w B A m vs) (ht : Texts w B vs xss) (hB : B ≤ w.heap.size) (hm : m ≤ 1073741824) (hn : xss.flatten.length ≤ 1099511627776) :
    Calls Tryd.prog 71 #[.slice A m c] w fun e w' => ∃ v, e = .returned v ∧ w'.ownsRow w.heap.size 34 1 v (m + 1) (vs ++ [.slice (some ⟨w.heap.size, 0, none⟩) (padI xss.flatten.length).length (padI xss.flatten.length).length]) ∧
      Row w' w.heap.size 5 .u8 (padI xss.flatten.length) ∧ Below w.heap.size w w' := by
  have hm' : (m : Int) ≤ 1073741824 := by omega
  have HV := Lib.hid h.1
  have HX := Lib.hid ht.1
  have HN := Lib.hid hn
  go_enter Tryd.func71, Tryd.ntmps71
  go_wp2_with fail
  go_loop [3, 8] (fun s i => ∃ k : Nat, k ≤ m ∧ i = .int .i64 k ∧ ∃ q : Nat, s = .int .i64 q ∧ Hid (q = (xss.take k).flatten.length)) (fun _ i => m - (intOf i).toNat)
  case atStart => exact ⟨0, by omega, rfl, 0, rfl, Lib.hid (by simp)⟩
  case round =>
    obtain ⟨k, hk, rfl, q, rfl, hq⟩ := hrel
    have hq0 : q ≤ 1099511627776 := by have := hq.out; have := flat_le xss k; omega
    by_cases hlt : k < m
    · obtain ⟨b, off, rfl, hb, hc⟩ := h.at_ hlt
      obtain ⟨A1, n1, c1, e1, hc1, hm1, hi1⟩ := ht.2 k (by rw [HV.out]; exact hlt)
      rw [e1] at hc
      have HQ := Lib.hid (show q + n1 = (xss.take (k + 1)).flatten.length by rw [flat_take xss (by have := HV.out; have := HX.out; omega), hi1.1, ← hq.out])
      have hq1 : q + n1 ≤ 1099511627776 := by have := HQ.out; have := flat_le xss (k + 1); omega
      have hlt' : (k : Int) < (m : Int) := by omega
      have hk0 : (0 : Int) ≤ (k : Int) := by omega
      have hq1' : (q : Int) + (n1 : Int) ≤ 1099511627776 := by omega
      clear e1 hi1
      go_wp2_with fail
      go_round
      case rel => exact ⟨k + 1, by omega, by go_num, q + n1, by go_num, HQ⟩
      case measure => simp [intOf]; omega
    · have hkm : k = m := by omega
      subst hkm
      have hqn : Hid (q = xss.flatten.length) := by
        have := hq.out
        rw [List.take_of_length_le (by have := HV.out; have := HX.out; omega)] at this
        exact Lib.hid this
      clear hq
      go_wp2_with fail
      refine (pad_any (q : Int) q _ (by omega) (by omega)).mono ?_
      rintro e w1 ⟨rfl, hr1, hb1⟩
      go_wp2_with fail
      have s1 := hb1.size
      have hw : w.heap.size < w1.heap.size := hr1.lt
      have p1 := (Vals.new w1 34 [.slice (some ⟨w.heap.size, 0, none⟩) (padI q).length (padI q).length] (by simp [Value.oneCell'])).alloc (by simp) (.cells #[.slice A k c, .slice (some ⟨w1.heap.size, 0, none⟩) 1 1] 85)
      have p2 := Vals.new (w1.alloc (.cells [.slice (some ⟨w.heap.size, 0, none⟩) (padI q).length (padI q).length].toArray 34)) 85 [.slice A k c, .slice (some ⟨w1.heap.size, 0, none⟩) 1 1] (by simp [Value.oneCell'])
      have b3 : Below w.heap.size w ((w1.alloc (.cells #[.slice (some ⟨w.heap.size, 0, none⟩) (padI q).length (padI q).length] 34)).alloc (.cells #[.slice A k c, .slice (some ⟨w1.heap.size, 0, none⟩) 1 1] 85)) := (hb1.alloc s1 _).alloc (by simp; omega) _
      have p0 := (h.below (b3.mono hB)).more (B' := w1.heap.size + 1 + 1) (by omega)
      have r3 := (hr1.alloc (.cells #[.slice (some ⟨w.heap.size, 0, none⟩) (padI q).length (padI q).length] 34)).alloc (.cells #[.slice A k c, .slice (some ⟨w1.heap.size, 0, none⟩) 1 1] 85)
      rw [World.size_alloc] at p2
      refine (concat_any (w1.heap.size + 1 + 1) _ A _ 2 k 1 c 1 vs _ _ p2 p0 (p1.more (by omega)) (by simp) (by omega) (by omega) (by omega)).mono ?_
      rintro e w4 ⟨v, rfl, hown, hb4⟩
      have hz4 := hb4.size
      rw [World.size_alloc, World.size_alloc] at hz4
      have hown' : w4.ownsRow w.heap.size 34 1 v (k + 1) (vs ++ [.slice (some ⟨w.heap.size, 0, none⟩) (padI q).length (padI q).length]) := by
        refine ⟨hown.1, ?_⟩
        rcases hown.2 with hh | ⟨g, cap, cur, e, hge, rest⟩
        · exact .inl hh
        · rw [World.size_alloc, World.size_alloc] at hge
          exact .inr ⟨g, cap, cur, e, by omega, rest⟩
      have T4 := r3.below hb4 (by simp; omega)
      rw [hqn.out] at T4 hown'
      have b4 := b3.trans (hb4.mono (by simp; omega))
      clear p0 p1 p2 r3 b3 hown hb4 hr1 hb1 h ht
      go_wp2_with fail
      go_ret
      exact ⟨v, rfl, hown', T4, b4⟩
end Go.Proofs.YtoelgcdjhekafaaDoor.Sha
namespace Go.Proofs.YtoelgcdjhekafaaDoor.Range
open Go.RowKit
set_option linter.unusedVariables false

/-- what is said does not mind a change of whatever lies at B or beyond -/
def Far {β : Type} (B : Nat) (J : β → World → Prop) : Prop :=
  ∀ s W W' row, J s W → W.grownBy W' row → (∀ r, row = some r → B ≤ r) → J s W'

theorem Far.alloc {β : Type} {B : Nat} {J : β → World → Prop} (h : Far B J) {s : β} {W : World} (o : Obj) (hs : J s W) : J s (W.alloc o) :=
  h s W _ none hs (World.grownBy_alloc W o none) (fun r e => by cases e)
theorem Far.put {β : Type} {B : Nat} {J : β → World → Prop} (h : Far B J) {s : β} {W : World} {l : Nat} (o : Obj) (hs : J s W) (hl : B ≤ l) : J s (W.putObj l o) :=
  h s W _ (some l) hs (grownBy_putObj' W l o) (fun r e => by cases e; exact hl)
theorem Far.below {β : Type} {B : Nat} {J : β → World → Prop} (h : Far B J) {s : β} {W W' : World} (hs : J s W) (hb : Below B W W') (hB : B ≤ W.heap.size) (hone : ∃ r, B ≤ r ∧ W.grownBy W' (some r)) : J s W' := by
  obtain ⟨r, hr, hg⟩ := hone
  exact h s W W' (some r) hs hg (fun q e => by cases e; exact hr)

/-- the iterator hands out just xs, one by one; Kp: what a round keeps -/
def SeqFar {α : Type} (F : Fence) (n : Nat) (P : Program) (g : Nat) (lb : Array Value) (encs : α → Array Value) (Kp : World → World → Prop) (xs : List α) (w : World) : Prop :=
  ∀ (l : Nat) (J : List α → World → Prop) (W : World), Below w.heap.size w W → Far W.heap.size J →
    (∀ pre x W1, J pre W1 → (pre ++ [x]) <+: xs → YieldAt F (n - 1) P l (encs x) W1 fun e W' => e = .returned (.bool true) ∧ J (pre ++ [x]) W' ∧ Kp W1 W') →
    J [] W → CallsIn F n P g (#[.func (.yield l) #[] #[]] ++ lb) W fun e W' => (∃ v, e = .returned v) ∧ J xs W'

/-- how a round's body ends: it goes on -/
def goesOn (R : World → Prop) : Exit → Act → World → Prop
  | .normal, _, W' => R W'
  | _, _, _ => False

variable {F : Fence} {n : Nat} {P : Program}

theorem wpIn_rangeFunc_far {α : Type} {g : Operand} {ps : Array Tmp} {assign body : Code} {Q : Exit → Act → World → Prop} {a : Act} {w : World}
    (hro : F.round = none) (h1 : 1 ≤ n) {gf : Nat} {lb : Array Value} (hg : a.eval g = .func (.func gf) #[] lb) (hFg : F.fn gf) (eg : ∀ args w, (callFunc gf args).run P w = .ok (.enter gf args) w)
    {encs : α → Array Value} {Kp : World → World → Prop} {xs : List α} {w0 : World} (hseq : SeqFar F (n - 1) P gf lb encs Kp xs w0)
    (hKt : ∀ {A B C : World}, Kp A B → Kp B C → Kp A C) (hKb : ∀ (W : World) (l : Nat) (o o' : Obj), w.heap.size ≤ l → W.heap[l]? = some o → o.isCells = false → o.isWalk = false → Kp W (W.putObj l o'))
    (hb0 : Below w0.heap.size w0 w) (hps : ∀ x, (encs x).size = ps.size)
    (I : List α → World → Prop) (hI : Far w.heap.size I) (h0 : I [] w)
    (Ib : α → Act → List α → World → Prop) (hIb : ∀ x a', OwnFrom w.heap.size (Ib x a'))
    (hassign : ∀ (l : Nat) (pre : List α) (x : α) (W : World) (K : Act → World → Prop), I pre W → (pre ++ [x]) <+: xs → w.heap.size ≤ W.heap.size → (∀ a' W', KeepsOthers W W' → Kp W W' → Ib x a' pre W' → K a' W') →
      assign.wpIn (F.inRound l) (n - 1 - 1) P (Exit.then K (fun _ _ _ => False)) { tmps := (ps.zip (encs x)).foldl (fun t (p, v) => t.setIfInBounds p v) a.tmps, defers := [] } W)
    (hbody : ∀ (l : Nat) (pre : List α) (x : α) (a' : Act) (W : World), Ib x a' pre W → (pre ++ [x]) <+: xs → w.heap.size ≤ W.heap.size →
      body.wpIn (F.inRound l) (n - 1 - 1) P (goesOn fun W' => KeepsOthers W W' ∧ Kp W W' ∧ I (pre ++ [x]) W') a' W)
    (hdone : ∀ (D : Nat) (W : World), w.heap.size ≤ D → I xs W → W.heap[D]? = some (.deferred (some [])) → Q .normal { a with defers := { target := .collected D, args := #[] } :: a.defers } W) :
    (Code.rangeFunc g ps assign body).wpIn F n P Q a w := by
  refine wpIn_rangeFunc fun fn hfn => ?_
  rw [hro]
  -- the record of the loop, and the block of the rounds' deferred calls, behind all that lay
  let rec0 : LoopState → Loop := fun st => { state := st, pending := none, fn := fn, tmps := a.tmps, params := ps, assign := assign, body := body, defers := w.heap.size }
  let W1 : World := (w.alloc (.deferred (some []))).alloc (.loop (rec0 .ready))
  have hz1 : W1.heap.size = w.heap.size + 2 := by simp [W1]
  have hl1 : W1.heap[w.heap.size + 1]? = some (.loop (rec0 .ready)) := by
    have e := World.alloc_heap_new (w.alloc (.deferred (some []))) (.loop (rec0 .ready))
    rwa [World.size_alloc] at e
  have hd1 : W1.heap[w.heap.size]? = some (.deferred (some [])) := (Below.heap_alloc _ _ _ (by simp)).trans (World.alloc_heap_new w _)
  have hi1 : I [] W1 := hI.alloc _ (hI.alloc _ h0)
  have hb1 : Below w0.heap.size w0 W1 := hb0.trans ((((Below.refl _ w).alloc (Nat.le_refl _) _).alloc (by simp) _).mono hb0.size)
  refine ⟨w.heap.size + 1, [{ target := .collected w.heap.size, args := #[] }], W1, { target := .fn (.func gf) lb, args := #[.func (.yield (w.heap.size + 1)) #[] #[]] }, W1, gf,
    #[.func (.yield (w.heap.size + 1)) #[] #[]] ++ lb, W1, run_enterLoop_outer _ _ _ _ _, by simp only [resolve, hg]; simp [go_sem],
    fun f' hf' => by simp [Target.leads] at hf'; subst hf'; exact hFg, by simp [invoke, go_sem, eg], fun _ => h1, ?_⟩
  have kept : ∀ {A B : World} {row : Option Nat} (i : Nat) (o : Obj), i < W1.heap.size → A.heap[i]? = some o → A.grownBy B row → (∀ r, row = some r → W1.heap.size ≤ r) → B.heap[i]? = some o := by
    intro A B row i o hi ho hg' hr
    exact (hg'.block i (Array.getElem?_eq_some_iff.1 ho).1 (fun e => by have := hr i e.symm; omega)).trans ho
  refine (hseq (w.heap.size + 1) (fun pre W => I pre W ∧ W.heap[w.heap.size + 1]? = some (.loop (rec0 .ready)) ∧ W.heap[w.heap.size]? = some (.deferred (some []))) W1 hb1
    (fun s A B row hs hg' hr => ⟨hI s A B row hs.1 hg' (fun r e => by have := hr r e; omega), kept _ _ (by omega) hs.2.1 hg' hr, kept _ _ (by omega) hs.2.2 hg' hr⟩) ?_ ⟨hi1, hl1, hd1⟩).mono ?_
  · -- a round
    rintro pre x W ⟨hi, hl, hd⟩ hpre
    have hlt : w.heap.size + 1 < W.heap.size := (Array.getElem?_eq_some_iff.1 hl).1
    have hy := run_yield (P := P) (args := encs x) hl (hps x)
    refine ⟨fn, _, assign, body, hy, roundIn_of_wpIn hfn (hassign _ pre x W _ hi hpre (by omega) ?_)⟩
    intro a' W2 hk2 hp2 hib
    have hl2 := hk2.same _ _ hl rfl
    have hd2 := hk2.same _ _ hd rfl
    have hlt2 : w.heap.size + 1 < W2.heap.size := (Array.getElem?_eq_some_iff.1 hl2).1
    refine ⟨_, run_beginRound hl2 rfl, ?_⟩
    have hl3 : (W2.putObj (w.heap.size + 1) (.loop { rec0 .ready with state := .busy })).heap[w.heap.size + 1]? = some (.loop { rec0 .ready with state := .busy }) := World.putObj_heap_same hlt2
    have hd3 : (W2.putObj (w.heap.size + 1) (.loop { rec0 .ready with state := .busy })).heap[w.heap.size]? = some (.deferred (some [])) := (World.putObj_heap_other (by omega)).trans hd2
    have hp3 : Kp W (W2.putObj (w.heap.size + 1) (.loop { rec0 .ready with state := .busy })) := hKt hp2 (hKb _ _ _ _ (by omega) hl2 rfl rfl)
    refine wpIn_mono (hbody _ pre x a' _ ((hIb x a').putObj _ hib (by omega) hl2 rfl) hpre (by rw [World.putObj_size]; omega)) ?_
    intro e a3 W4 hp
    cases e with
    | normal =>
      obtain ⟨hk4, hp4, hi4⟩ := hp
      have hl4 := hk4.same _ _ hl3 rfl
      have hlt4 : w.heap.size + 1 < W4.heap.size := (Array.getElem?_eq_some_iff.1 hl4).1
      refine ⟨_, _, run_endRound (P := P) none hl4, rfl, ⟨hI.put _ hi4 (by omega), World.putObj_heap_same hlt4, (World.putObj_heap_other (by omega)).trans (hk4.same _ _ hd3 rfl)⟩, ?_⟩
      exact hKt (hKt hp3 hp4) (hKb _ _ _ _ (by omega) hl4 rfl rfl)
    | ret => exact hp.elim
    | exit id => exact hp.elim
    | goto t => exact hp.elim
    | panic ch => exact hp.elim
    | outgrown => exact hp.elim
  · -- behind the iterator
    rintro e W2 ⟨⟨v, rfl⟩, hi, hl, hd⟩
    refine ⟨none, _, run_endLoop (P := P) hl (by simp [rec0]), ?_⟩
    exact hdone _ _ (Nat.le_refl _) (hI.put _ hi (by omega)) ((World.putObj_heap_other (by omega)).trans hd)
end Go.Proofs.YtoelgcdjhekafaaDoor.Range
namespace Go.Proofs.YtoelgcdjhekafaaDoor.Mem
open Go.RowKit Go.Proofs.YtoelgcdjhekafaaDoor.Range
set_option linter.unusedVariables false

section
variable {F : Fence} {n : Nat} {P : Program} {ops : Array Oper} {rest : List Oper} {o : Oper} {a : Act} {w : World} {Q : Exit → Act → World → Prop}
theorem wpListIn_load_Row (hw : Region.wanted o (yielded ops a.tmps) = true) (ty : TypeId) (x : Operand) (ho : o.op = .load ty x) (g : Nat) (hx : a.eval x = .pointer (some ⟨g, 0, none⟩)) (t : TypeId) (k : IntKind) (zs : List Int) (hr : Row w g t k zs)
    (m : Nat) (e : TypeId) (hu : P.underlying ty = some (.array m e)) (hi : (P.info? ty).map (·.size) = some m) (hn : zs.length = m)
    (h : wpListIn F n P ops Q rest (a.put o.dst (.agg (arr k zs))) w) : wpListIn F n P ops Q (o :: rest) a w := by
  refine wpListIn_step fun K hK => ?_
  rw [if_pos hw]
  unfold Oper.wpIn
  refine ⟨fun f hf => by simp [Oper.about, ho] at hf, ?_⟩
  rw [Oper.semAt_plain F _ _ (by rw [ho]; intro c hc'; cases hc')]
  unfold execOp
  simp only [ho, hx, Instr.loadAt, Instr.sureAddr, Sem.run_bind, Sem.run_pure, Result.andThen_ok, run_loadVar_row w g t ty (arr k zs) (0, 0) _ hr.2 hu rfl (by rw [hi, arr_size, hn])]
  exact hK _ _ h
theorem wpListIn_load_arr (hw : Region.wanted o (yielded ops a.tmps) = true) (ty : TypeId) (x : Operand) (ho : o.op = .load ty x) (g : Nat) (hx : a.eval x = .pointer (some ⟨g, 0, none⟩)) (t : TypeId) (fr : Nat × Nat) (k : IntKind) (zs : List Int) (hr : w.heap[g]? = some (.cells (arr k zs) t fr))
    (m : Nat) (e : TypeId) (hu : P.underlying ty = some (.array m e)) (hi : (P.info? ty).map (·.size) = some m) (hn : zs.length = m)
    (h : wpListIn F n P ops Q rest (a.put o.dst (.agg (arr k zs))) w) : wpListIn F n P ops Q (o :: rest) a w := by
  refine wpListIn_step fun K hK => ?_
  rw [if_pos hw]
  unfold Oper.wpIn
  refine ⟨fun f hf => by simp [Oper.about, ho] at hf, ?_⟩
  rw [Oper.semAt_plain F _ _ (by rw [ho]; intro c hc'; cases hc')]
  unfold execOp
  simp only [ho, hx, Instr.loadAt, Instr.sureAddr, Sem.run_bind, Sem.run_pure, Result.andThen_ok, run_loadVar_row w g t ty (arr k zs) fr _ hr hu rfl (by rw [hi, arr_size, hn])]
  exact hK _ _ h
theorem wpListIn_store_Row (hw : Region.wanted o (yielded ops a.tmps) = true) (ty : TypeId) (x y : Operand) (ho : o.op = .store ty x y) (g : Nat) (hx : a.eval x = .pointer (some ⟨g, 0, none⟩)) (t : TypeId) (k : IntKind) (old zs : List Int) (hy : a.eval y = .agg (arr k zs))
    (hr : Row w g t k old) (m : Nat) (hi : (P.info? ty).map (·.size) = some m) (hn : zs.length = m) (ho' : old.length = m)
    (h : wpListIn F n P ops Q rest (a.put o.dst undef) (w.setRow g (arr k zs))) : wpListIn F n P ops Q (o :: rest) a w := by
  refine wpListIn_step fun K hK => ?_
  rw [if_pos hw]
  unfold Oper.wpIn
  refine ⟨fun f hf => by simp [Oper.about, ho] at hf, ?_⟩
  rw [Oper.semAt_plain F _ _ (by rw [ho]; intro c hc'; cases hc')]
  unfold execOp
  simp only [ho, hx, hy, Instr.storeAt, Instr.sureAddr, Sem.run_bind, Sem.run_pure, Result.andThen_ok, run_storeVar_row w g t ty _ (arr k zs) hr.2 (by rw [hi, arr_size, hn]) (by simp [arr, ho', hn]) (arr_one k zs)]
  exact hK _ _ h
theorem wpListIn_copy_Row (hw : Region.wanted o (yielded ops a.tmps) = true) (d s : Operand) (dT sT : TypeId) (ho : o.op = .call { callee := .builtin .copy, args := #[d, s], argTypes := #[dT, sT] }) (e : TypeId) (hu : P.underlying dT = some (.slice e)) (hsz : (P.info? e).map (·.size) = some 1)
    (g off dLen dCap : Nat) (A : Option Addr) (sLen sCap : Nat) (hd : a.eval d = .slice (some ⟨g, off, none⟩) dLen dCap) (hs : a.eval s = .slice A sLen sCap)
    (t : TypeId) (k : IntKind) (cur xs : List Int) (hr : Row w g t k cur) (hx : 0 < sLen → ∃ b o2, A = some ⟨b, o2, none⟩ ∧ ∀ i, i < sLen → w.cell? ⟨b, o2 + i, none⟩ = some (.int k (xs.getD i 0))) (hxl : xs.length = sLen)
    (m : Nat) (hm : m = min sLen dLen) (h0 : 0 < m) (hfit : off + m ≤ cur.length)
    (h : wpListIn F n P ops Q rest (a.put o.dst (.int .i64 (m : Int))) (w.setRow g (arr k (cur.take off ++ (xs.take m ++ cur.drop (off + m)))))) : wpListIn F n P ops Q (o :: rest) a w := by
  have hml : m ≤ sLen := by omega
  obtain ⟨b, o2, rfl, hc⟩ := hx (by omega)
  have hlen : ((xs.take m).map (Value.int k)).length = m := by simp [hxl, hml]
  have hrun := run_copy_row (P := P) w dT sT o.type e g off dLen dCap ⟨b, o2, none⟩ sLen sCap (arr k cur) t ((xs.take m).map (Value.int k)) hu hsz hr.2 (by rw [hlen, hm])
    (fun j v hv => by
      have hj : j < m := by have := (List.getElem?_eq_some_iff.1 hv).1; omega
      have e1 : (Addr.mk b o2 none).add j = ⟨b, o2 + j, none⟩ := by unfold Addr.add; split <;> simp_all
      rw [e1, hc j (by omega), ← hv]
      simp [List.getD_eq_getElem?_getD, hj, show j < xs.length by omega])
    (by rw [hlen, arr_size]; exact hfit) (by intro v hv; obtain ⟨z, _, rfl⟩ := List.mem_map.1 hv; rfl)
  have hcells : ((arr k cur).toList.take off ++ (xs.take m).map (Value.int k) ++ (arr k cur).toList.drop (off + ((xs.take m).map (Value.int k)).length)).toArray = arr k (cur.take off ++ (xs.take m ++ cur.drop (off + m))) := by
    rw [hlen]
    simp [arr, List.map_take, List.map_drop]
  rw [hcells, hlen] at hrun
  refine wpListIn_step fun K hK => ?_
  rw [if_pos hw]
  unfold Oper.wpIn
  refine ⟨?_, ?_⟩
  · simp [Oper.about, ho, resolve, Target.leads, Sem.run_pure]
  · rw [Oper.semAt_plain F _ _ (by rw [ho]; intro c hc'; cases hc')]
    simp [execOp, ho, resolve, invoke, builtin, hd, hs, hrun, Result.andThen]
    exact hK _ _ h
end

/-- of the blocks of cells, at most those of S are not as they were -/
structure Only (S : Nat → Prop) (w w' : World) : Prop where
  size : w.heap.size ≤ w'.heap.size
  block : ∀ (i : Nat) (o : Obj), ¬ S i → w.heap[i]? = some o → o.isCells = true → w'.heap[i]? = some o
section
variable {S S' : Nat → Prop} {w w' w'' : World}
theorem Only.refl (S : Nat → Prop) (w : World) : Only S w w := ⟨Nat.le_refl _, fun _ _ _ h _ => h⟩
theorem Only.trans (h : Only S w w') (k : Only S w' w'') : Only S w w'' := ⟨Nat.le_trans h.size k.size, fun i o hi ho hc => k.block i o hi (h.block i o hi ho hc) hc⟩
theorem Only.mono (h : Only S w w') (hS : ∀ i, S i → S' i) : Only S' w w' := ⟨h.size, fun i o hi => h.block i o (fun e => hi (hS i e))⟩
theorem Only.of_grown {row : Option Nat} (hg : w.grownBy w' row) (hr : ∀ r, row = some r → S r) : Only S w w' :=
  ⟨hg.size, fun i o hi ho _ => (hg.block i (Array.getElem?_eq_some_iff.1 ho).1 (fun e => hi (hr i e.symm))).trans ho⟩
theorem Only.of_below (h : Below w.heap.size w w') : Only S w w' := ⟨h.size, fun i o _ ho _ => (h.block i (Array.getElem?_eq_some_iff.1 ho).1).trans ho⟩
theorem Only.put (W : World) (l : Nat) (o o' : Obj) (h : W.heap[l]? = some o) (hc : o.isCells = false) : Only S W (W.putObj l o') :=
  ⟨by simp, fun i q _ hq hqc => by
    by_cases e : i = l
    · subst e; rw [h] at hq; cases hq; rw [hc] at hqc; cases hqc
    · exact (World.putObj_heap_other e).trans hq⟩
theorem Only.cell (h : Only S w w') {p : Addr} {v : Value} (hp : ¬ S p.block) (hc : w.cell? p = some v) : w'.cell? p = some v := by
  obtain ⟨o, ho, hcs⟩ := cells_of_cell hc
  exact (World.cell?_of_block ((h.block _ o hp ho hcs).trans ho.symm)).trans hc
theorem Only.row (h : Only S w w') {g : Nat} {t : TypeId} {k : IntKind} {zs : List Int} (hg : ¬ S g) (hr : Row w g t k zs) : Row w' g t k zs := ⟨hr.1, h.block g _ hg hr.2 rfl⟩

/-- a slice that reads as numbers, at a block that is none of S -/
def IntsN (w : World) (k : IntKind) (S : Nat → Prop) (A : Option Addr) (n : Nat) (zs : List Int) : Prop :=
  zs.length = n ∧ (∀ z ∈ zs, (Lit.int k z).wf = true) ∧ (0 < n → ∃ b off, A = some ⟨b, off, none⟩ ∧ ¬ S b ∧ ∀ i, i < n → w.cell? ⟨b, off + i, none⟩ = some (.int k (zs.getD i 0)))
theorem IntsN.only {k : IntKind} {A : Option Addr} {n : Nat} {zs : List Int} (h : IntsN w k S A n zs) (ho : Only S w w') : IntsN w' k S A n zs :=
  ⟨h.1, h.2.1, fun hn => by
    obtain ⟨b, off, e, hb, hc⟩ := h.2.2 hn
    exact ⟨b, off, e, hb, fun i hi => ho.cell (p := ⟨b, off + i, none⟩) hb (hc i hi)⟩⟩
theorem IntsN.of {k : IntKind} {A : Option Addr} {n B : Nat} {zs : List Int} (h : Ints w k B A n zs) (hB : ∀ b, b < B → ¬ S b) : IntsN w k S A n zs :=
  ⟨h.1, h.2.1, fun hn => by
    obtain ⟨b, off, e, hb, hc⟩ := h.2.2 hn
    exact ⟨b, off, e, hB b hb, hc⟩⟩
theorem IntsN.row {t : TypeId} {k : IntKind} {g : Nat} {zs : List Int} (h : Row w g t k zs) (hg : ¬ S g) : IntsN w k S (some ⟨g, 0, none⟩) zs.length zs :=
  ⟨rfl, h.1, fun _ => ⟨g, 0, rfl, hg, fun i hi => by rw [Nat.zero_add]; exact h.cell hi⟩⟩
/-- what is left of it behind its first m -/
theorem IntsN.cut {k : IntKind} {b off n m cap : Nat} {zs : List Int} (h : IntsN w k S (some ⟨b, off, none⟩) n zs) (hm : m ≤ n) (hc : n ≤ cap) :
    IntsN w k S (if cap = m then some ⟨b, off, none⟩ else some ⟨b, off + m, none⟩) (n - m) (zs.drop m) := by
  refine ⟨by simp [h.1], fun z hz => h.2.1 z (List.mem_of_mem_drop hz), fun hn => ?_⟩
  obtain ⟨b', off', e, hb, hcell⟩ := h.2.2 (by omega)
  injection e with e
  injection e with e1 e2
  subst e1
  subst e2
  rw [if_neg (by omega)]
  refine ⟨b, off + m, rfl, hb, fun i hi => ?_⟩
  rw [Nat.add_assoc, hcell (m + i) (by omega)]
  simp [List.getD_eq_getElem?_getD, List.getElem?_drop]
end
end Go.Proofs.YtoelgcdjhekafaaDoor.Mem
namespace Go.Proofs.YtoelgcdjhekafaaDoor.Sha
open Go.RowKit Go.Shelf Go.Proofs.YtoelgcdjhekafaaDoor.Mem Go.Proofs.YtoelgcdjhekafaaDoor.Help Go.Proofs.YtoelgcdjhekafaaDoor.Sum Go.Proofs.YtoelgcdjhekafaaDoor.Range
set_option linter.unusedVariables false
attribute [local go_sem] Oper.semAt_some

/-- the whole blocks of a message -/
def chunks (m : List Int) : List (List Int) := (List.range (m.length / 64)).map fun i => (m.drop (64 * i)).take 64
theorem chunks_length (m : List Int) : (chunks m).length = m.length / 64 := by simp [chunks]
theorem chunks_take (m : List Int) {j : Nat} (h : 64 * (j + 1) ≤ m.length) : (chunks m).take j ++ [(m.drop (64 * j)).take 64] = (chunks m).take (j + 1) := by
  have hj : j < (chunks m).length := by rw [chunks_length]; omega
  rw [List.take_succ_eq_append_getElem hj]
  simp [chunks]
theorem chunks_mem {m x : List Int} (h : x ∈ chunks m) : x.length = 64 ∧ ∀ z ∈ x, z ∈ m := by
  simp only [chunks, List.mem_map, List.mem_range] at h
  obtain ⟨i, hi, rfl⟩ := h
  exact ⟨by rw [List.length_take, List.length_drop]; omega, fun z hz => List.mem_of_mem_drop (List.mem_of_mem_take hz)⟩

/-- the block as it is when p bytes have come -/
def Blk (m : List Int) (p : Nat) (cur : List Int) : Prop := cur.length = 64 ∧ cur.take (p % 64) = (m.drop (64 * (p / 64))).take (p % 64)
theorem Blk.step {m cur : List Int} {p n k : Nat} (h : Blk m p cur) (hk : k = min n (64 - p % 64)) (hn : p + n ≤ m.length) (h0 : 0 < n) :
    (cur.take (p % 64) ++ (((m.drop p).take n).take k ++ cur.drop (p % 64 + k))).length = 64 ∧ ((p + k) % 64 ≠ 0 → Blk m (p + k) (cur.take (p % 64) ++ (((m.drop p).take n).take k ++ cur.drop (p % 64 + k)))) ∧
      ((p + k) % 64 = 0 → cur.take (p % 64) ++ (((m.drop p).take n).take k ++ cur.drop (p % 64 + k)) = (m.drop (64 * (p / 64))).take 64) := by
  obtain ⟨hl, ht⟩ := h
  have hp : p % 64 < 64 := Nat.mod_lt _ (by omega)
  have hc : (cur.take (p % 64)).length = p % 64 := by simp; omega
  have hd : (((m.drop p).take n).take k).length = k := by simp; omega
  have e1 : cur.take (p % 64) ++ ((m.drop p).take n).take k = (m.drop (64 * (p / 64))).take (p % 64 + k) := by
    rw [ht, List.take_take, Nat.min_eq_left (by omega), List.take_add, List.drop_drop]
    congr 3
    omega
  have hlen : (cur.take (p % 64) ++ (((m.drop p).take n).take k ++ cur.drop (p % 64 + k))).length = 64 := by
    rw [List.length_append, List.length_append, hc, hd, List.length_drop]; omega
  refine ⟨hlen, fun hne => ⟨hlen, ?_⟩, fun he => ?_⟩
  · have hlt : p % 64 + k < 64 := by omega
    have e2 : (p + k) % 64 = p % 64 + k := by omega
    have e3 : (p + k) / 64 = p / 64 := by omega
    rw [e2, e3, ← e1, ← List.append_assoc, List.take_left' (by rw [List.length_append, hc, hd])]
  · have hk64 : p % 64 + k = 64 := by omega
    have ed : cur.drop 64 = [] := List.drop_of_length_le (by omega)
    rw [hk64, ed, List.append_nil, e1, hk64]
theorem Blk.next {m cur : List Int} {p : Nat} (hl : cur.length = 64) (h : p % 64 = 0) : Blk m p cur := ⟨hl, by rw [h]; simp⟩

theorem flat_get : ∀ (yss : List (List Int)) (k : Nat), k < yss.length → yss.getD k [] = (yss.flatten.drop (yss.take k).flatten.length).take (yss.getD k []).length
  | [], k, h => by simp at h
  | ys :: yss, 0, _ => by simp
  | ys :: yss, k + 1, h => by
    have := flat_get yss k (by simpa using h)
    simp only [List.getD_cons_succ, List.take_succ_cons, List.flatten_cons, List.length_append] at this ⊢
    rw [List.drop_append, List.drop_of_length_le (by omega), List.nil_append]
    have e : ys.length + (yss.take k).flatten.length - ys.length = (yss.take k).flatten.length := by omega
    rw [e]
    exact this
def lenV : Value → Nat
  | .slice _ n _ => n
  | _ => 0

theorem blocks_any (A : Option Addr) (m c : Nat) (w : World) :
    Calls Tryd.prog 66 #[.slice A m c] w fun e w' => e = .returned (.func (.func 70) #[] #[.pointer (some ⟨w.heap.size, 0, none⟩)]) ∧ w' = w.alloc (.cells #[.slice A m c] 85) := by
  go_enter Tryd.func66, Tryd.ntmps66
  go_wp2
  go_ret
  exact ⟨rfl, rfl⟩

set_option maxRecDepth 100000 in
set_option maxHeartbeats 2000000 in
theorem iter_far (n st bx B : Nat) (A : Option Addr) (m c : Nat) (vs : List Value) (xss : List (List Int)) (w : World) (hbx : w.cell? ⟨bx, 0, none⟩ = some (.slice A m c)) (h : Vals w B A m vs) (ht : Texts w B vs xss)
    (hB : B ≤ st) (hst : st < w.heap.size) (hm : m ≤ 1073741824) (hn : xss.flatten.length ≤ 1099511627776) :
    SeqFar Fence.wide n Tryd.prog 70 #[.pointer (some ⟨bx, 0, none⟩)] (fun bs => #[.agg (arr .u8 bs)]) (Only (· = st)) (chunks (xss.flatten ++ padI xss.flatten.length)) w := by
  intro l J W hW hJ hY h0
  have hbx' := (hW.cell (p := ⟨bx, 0, none⟩) (World.block_lt_of_cell? w _ hbx)).trans hbx
  have hs := hW.size
  have h1 := (h.below (hW.mono (by omega))).alloc (by omega) (.cells (arr .u8 (List.replicate 64 0)) 86)
  have ht1 := (ht.below (hW.mono (by omega)) : Texts W B vs xss).keep (w' := W.alloc (.cells (arr .u8 (List.replicate 64 0)) 86)) (fun p hp => World.cell?_alloc_lt W _ p (by omega))
  have hbx1 : ∀ o, (W.alloc o).cell? ⟨bx, 0, none⟩ = some (.slice A m c) := fun o => (World.cell?_alloc_lt W o _ (World.block_lt_of_cell? W _ hbx')).trans hbx'
  refine callsIn_of_wp Tryd.func70 rfl trivial ?_ rfl
  simp only [Tryd.ntmps70, List.size_toArray, List.length_cons, List.length_nil, Nat.reduceAdd, Nat.reduceSub, Array.replicate_succ, Array.replicate_zero, List.push_toArray, List.append_toArray, List.nil_append, List.cons_append]
  gi_wp2_with fail
  refine ⟨trivial, fun h => (by cases h), ?_⟩
  refine (callsIn_wide.2 (padded_any B A m c vs xss _ h1 ht1 (by simp; omega) hm hn)).mono ?_
  rintro e w2 ⟨v2, rfl, hown, hpad, hb2⟩
  have nb : Row (W.alloc (.cells (arr .u8 (List.replicate 64 0)) 86)) W.heap.size 86 .u8 (List.replicate 64 0) := Row.new W _ (fun z hz => by rw [List.eq_of_mem_replicate hz]; rfl)
  have rb := nb.below hb2 (by simp)
  have hs2 := hb2.size
  have hw2 : Below W.heap.size W w2 := ((Below.refl _ W).alloc (Nat.le_refl _) _).trans (hb2.mono (by simp))
  have hJ2 := hJ [] W w2 none h0 (grown_of_below hw2 none) (fun r e => by cases e)
  rw [World.size_alloc] at hown hpad hs2
  have htn : Texts w2 B vs xss := (ht.below (hW.mono (by omega)) : Texts W B vs xss).below (hw2.mono (by omega))
  obtain ⟨g, cap, rfl, hg1, hg2, hvals⟩ : ∃ g cap, v2 = .slice (some ⟨g, 0, none⟩) (m + 1) cap ∧ W.heap.size + 1 ≤ g ∧ g < w2.heap.size ∧ Vals w2 w2.heap.size (some ⟨g, 0, none⟩) (m + 1) (vs ++ [.slice (some ⟨W.heap.size + 1, 0, none⟩) (padI xss.flatten.length).length (padI xss.flatten.length).length]) := by
    rcases hown.2 with ⟨_, h0⟩ | ⟨g, cap, cur, e, hge, hgg, hnc, hcm, hcs, htk⟩
    · omega
    · subst e
      refine ⟨g, cap, rfl, hge, (Array.getElem?_eq_some_iff.1 hgg).1, ownsRow_vals hown (fun v hv => ?_)⟩
      rcases List.mem_append.1 hv with hv | hv
      · exact htn.one_cell v hv
      · have : v = _ := List.mem_singleton.1 hv
        rw [this]; rfl
  -- every text, of the parts and of the pad, lies apart from the caller's cell and from the block
  have hS : ∀ b, b < B → ¬ (b = st ∨ b = W.heap.size) := fun b hb e => by omega
  have hall : ∀ k, k ≤ m → ∃ A' n' c', w2.cell? ⟨g, k, none⟩ = some (.slice A' n' c') ∧ n' ≤ c' ∧ c' ≤ maxLen ∧ IntsN w2 .u8 (fun b => b = st ∨ b = W.heap.size) A' n' ((xss ++ [padI xss.flatten.length]).getD k []) := by
    intro k hk
    obtain ⟨b, off, e, _, hc⟩ := hvals.at_ (i := k) (by omega)
    injection e with e
    injection e with e1 e2
    subst e1
    subst e2
    rw [Nat.zero_add] at hc
    by_cases hkm : k < m
    · obtain ⟨A', n', c', e3, h3, h4, h5⟩ := htn.2 k (by rw [h.1]; exact hkm)
      have hkv : k < vs.length := by rw [h.1]; exact hkm
      have hkx : k < xss.length := by rw [← ht.1]; exact hkv
      refine ⟨A', n', c', ?_, h3, h4, ?_⟩
      · rw [hc, ← e3]
        simp [List.getD_eq_getElem?_getD, List.getElem?_append_left hkv]
      · have e4 : (xss ++ [padI xss.flatten.length]).getD k [] = xss.getD k [] := by simp [List.getD_eq_getElem?_getD, List.getElem?_append_left hkx]
        rw [e4]
        exact IntsN.of h5 hS
    · have : k = m := by omega
      subst this
      have hkv : vs.length = k := h.1
      have hkx : xss.length = k := by rw [← ht.1]; exact hkv
      refine ⟨some ⟨W.heap.size + 1, 0, none⟩, (padI xss.flatten.length).length, (padI xss.flatten.length).length, ?_, Nat.le_refl _, ?_, ?_⟩
      · rw [hc]; simp [List.getD_eq_getElem?_getD, hkv]
      · rw [pad_length]; unfold maxLen; omega
      · have e4 : (xss ++ [padI xss.flatten.length]).getD k [] = padI xss.flatten.length := by simp [List.getD_eq_getElem?_getD, hkx]
        rw [e4]
        exact IntsN.row hpad (by omega)
  have hgS : ¬ (g = st ∨ g = W.heap.size) := by omega
  have hbS : ¬ W.heap.size = st := by omega
  clear hvals hown hpad htn nb hb2 h1 ht1 hbx1 hbx' hbx
  -- the whole message, and how far the parts reach
  obtain ⟨yss, hyss⟩ : ∃ yss, xss ++ [padI xss.flatten.length] = yss := ⟨_, rfl⟩
  have hyl : yss.length = m + 1 := by rw [← hyss, List.length_append, ← ht.1, h.1]; rfl
  have hmsg : xss.flatten ++ padI xss.flatten.length = yss.flatten := by rw [← hyss, List.flatten_append]; simp
  have hwhole : yss.flatten.length % 64 = 0 := by rw [← hmsg, List.length_append]; exact pad_whole _
  have hbig : yss.flatten.length ≤ 1099511627776 + 128 := by rw [← hmsg, List.length_append, pad_length]; omega
  rw [hyss] at hall
  rw [hmsg] at hY
  have HM := Lib.hid hmsg
  clear hyss hmsg h ht hn
  have HW := Lib.hid hwhole
  have HY := Lib.hid hyl
  clear hwhole hyl
  have hm' : (m : Int) ≤ 1073741824 := by omega
  gi_wp2_with fail
  gi_loopw [4, 11] (fun f i wr => ∃ k p : Nat, k ≤ m + 1 ∧ i = .int .i64 k ∧ Hid (p = (yss.take k).flatten.length) ∧ f = .int .i64 ((p % 64 : Nat) : Int) ∧ J ((chunks yss.flatten).take (p / 64)) wr ∧ Only (fun b => b = st ∨ b = W.heap.size) w2 wr ∧
    ∃ cur, Row wr W.heap.size 86 .u8 cur ∧ Hid (Blk yss.flatten p cur)) (fun _ i _ => m + 1 - (intOf i).toNat)
  case atStart => exact ⟨0, 0, by omega, rfl, Lib.hid (by simp), rfl, by simpa using hJ2, Only.refl _ _, _, rb, Lib.hid ⟨by simp, by simp⟩⟩
  case round =>
    obtain ⟨k, p, hk, rfl, hp, rfl, hJp, hon, cur, hcur, hblk⟩ := hrel
    by_cases hlt : k < m + 1
    · obtain ⟨A1, n1, c1, hc1, hn1, hm1, hi1⟩ := hall k (by omega)
      have hc1' := hon.cell (p := ⟨g, k, none⟩) hgS hc1
      have hlt' : (k : Int) < (m : Int) + 1 := by omega
      have hk0 : (0 : Int) ≤ (k : Int) := by omega
      have hkl : k < yss.length := by rw [HY.out]; exact hlt
      have hq : p + n1 = (yss.take (k + 1)).flatten.length := by rw [flat_take yss hkl, hi1.1, ← hp.out]
      have hqm := flat_le yss (k + 1)
      have htx := flat_get yss k hkl
      rw [hi1.1, ← hp.out] at htx
      rw [htx] at hi1
      obtain ⟨q, hq2⟩ : ∃ q, (yss.take (k + 1)).flatten.length = q := ⟨_, rfl⟩
      have HQ2 := Lib.hid hq2.symm
      rw [hq2] at hq hqm
      clear hq2
      have HQ := Lib.hid hq
      clear hq htx hp hc1 hall
      gi_wp2_with fail
      gi_loopw [4, 6] (fun f a wr => ∃ p n' : Nat, ∃ A' c', f = .int .i64 ((p % 64 : Nat) : Int) ∧ a = .slice A' n' c' ∧ n' ≤ c' ∧ c' ≤ maxLen ∧ Hid (p + n' = q) ∧ IntsN w2 .u8 (fun b => b = st ∨ b = W.heap.size) A' n' ((yss.flatten.drop p).take n') ∧
        J ((chunks yss.flatten).take (p / 64)) wr ∧ Only (fun b => b = st ∨ b = W.heap.size) w2 wr ∧ ∃ cur, Row wr W.heap.size 86 .u8 cur ∧ Hid (Blk yss.flatten p cur)) (fun _ a _ => lenV a)
      case atStart => exact ⟨p, n1, A1, c1, rfl, rfl, hn1, hm1, HQ, hi1, hJp, hon, cur, hcur, hblk⟩
      case round =>
        clear hi1 hJp hon hcur hblk hn1 hm1 HQ
        obtain ⟨p, n', A', c', rfl, rfl, hn1, hm1, hq, hi1, hJp, hon, cur, hcur, hblk⟩ := hrel
        by_cases hpos : 0 < n'
        · obtain ⟨b, off, rfl, hbN, hcc⟩ := hi1.2.2 hpos
          have hcw : ∀ i, i < n' → wr.cell? ⟨b, off + i, none⟩ = some (.int .u8 (((yss.flatten.drop p).take n').getD i 0)) := fun i hi => hon.cell (p := ⟨b, off + i, none⟩) hbN (hcc i hi)
          obtain ⟨mm, hmm⟩ : ∃ mm, min n' (64 - p % 64) = mm := ⟨_, rfl⟩
          have hstep := hblk.out.step (n := n') hmm.symm (by have := hq.out; omega) hpos
          have HST := Lib.hid hstep
          have hcl := hblk.out.1
          have hxl := hi1.1
          have HCL := Lib.hid hcl
          have HXL := Lib.hid hxl
          have hf64 : p % 64 < 64 := Nat.mod_lt _ (by omega)
          have hmm1 : 0 < mm := by omega
          have hmm2 : mm ≤ n' := by omega
          have hmm3 : mm ≤ 64 - p % 64 := by omega
          have HMM := Lib.hid hmm
          clear hstep hcl hxl hmm hcc
          obtain ⟨f, hf⟩ : ∃ f, p % 64 = f := ⟨_, rfl⟩
          have hcur' := hcur
          obtain ⟨new, hnew⟩ : ∃ new, cur.take f ++ (((yss.flatten.drop p).take n').take mm ++ cur.drop (f + mm)) = new := ⟨_, rfl⟩
          have r3 : Row (wr.setRow W.heap.size (arr .u8 new)) W.heap.size 86 .u8 new := hcur.setRow (fun z hz => by
            rw [← hnew] at hz
            rcases List.mem_append.1 hz with hz | hz
            · exact hcur.1 z (List.mem_of_mem_take hz)
            · rcases List.mem_append.1 hz with hz | hz
              · exact hi1.2.1 z (List.mem_of_mem_take hz)
              · exact hcur.1 z (List.mem_of_mem_drop hz))
          have o3 : Only (fun b => b = st ∨ b = W.heap.size) w2 (wr.setRow W.heap.size (arr .u8 new)) := hon.trans (Only.of_grown (grown_setRow _ _ _) (fun r e => by cases e; exact .inr rfl))
          have J3 := hJ _ _ _ _ hJp (grown_setRow wr W.heap.size (arr .u8 new)) (fun r e => by cases e; exact Nat.le_refl _)
          rw [hf, hnew] at HST
          rw [hf] at HMM hf64 hmm3 ⊢
          have hfi : (f : Int) < 64 := by omega
          have hmi : (mm : Int) ≤ 64 - (f : Int) := by omega
          have hmi0 : (0 : Int) < (mm : Int) := by omega
          have hfi0 : (0 : Int) ≤ (f : Int) := by omega
          have hmi2 : (mm : Int) ≤ (n' : Int) := by omega
          have hsl := fun W' => run_slice_arr_l (P := Tryd.prog) 86 5 64 W.heap.size f W' Tryd.underlying86 (by kernel_rfl) hf64
          have hcutN := hi1.cut hmm2 hn1
          rw [List.drop_take, List.drop_drop] at hcutN
          have HQ' := Lib.hid (show p + mm + (n' - mm) = q by have := hq.out; omega)
          by_cases hz : (p + mm) % 64 = 0
          · have hx := HST.out.2.2 hz
            have e64 : p + mm = 64 * (p / 64 + 1) := by omega
            have htk := chunks_take yss.flatten (j := p / 64) (by have := hq.out; omega)
            obtain ⟨fn, tmps, assign, body, hy, hR⟩ := hY _ new _ J3 (by rw [hx, htk]; exact List.take_prefix _ _)
            have HTK := Lib.hid htk
            have HXX := Lib.hid hx
            have HZ := Lib.hid hz
            have HE := Lib.hid e64
            have hzi : ((f : Int) + (mm : Int)) % 64 = 0 := by omega
            have hz2 := Lib.hid hzi
            clear hx htk e64 hz hzi
            have hL : new.length = 64 := HST.out.1
            have HLn := Lib.hid hL
            clear hL
            have hzb : ((((f : Int) + (mm : Int)) % 64 == 0)) = true := by rw [hz2.out]; rfl
            by_cases hcm : c' = mm
            · rw [if_pos hcm] at hcutN
              subst hcm
              have HQ0 := Lib.hid (show p + c' + 0 = q by have := hq.out; omega)
              have hz0 : IntsN w2 .u8 (fun b => b = st ∨ b = W.heap.size) (some ⟨b, off, none⟩) 0 ((yss.flatten.drop (p + c')).take 0) := ⟨by simp, by simp, fun h => absurd h (by omega)⟩
              gi_wp2_with (first
                | (refine wpListIn_copy_Row rfl _ _ 34 34 rfl 5 Tryd.underlying34 (by kernel_rfl) W.heap.size f (64 - f) (64 - f) (some ⟨b, off, none⟩) n' c' rfl rfl 86 .u8 cur _ hcur (fun _ => ⟨b, off, rfl, hcw⟩) HXL.out c' HMM.out.symm hmm1 (by rw [HCL.out]; omega) ?_; rw [hnew])
                | (refine wpListIn_load_Row rfl 86 _ rfl W.heap.size rfl 86 .u8 new r3 64 5 Tryd.underlying86 info_64 HLn.out ?_))
              all_goals
                refine ⟨fun h => (by cases h), ?_⟩
                refine hR.mono ?_
                rintro e W4 ⟨rfl, J4, k4⟩
                have o4 := o3.trans (k4.mono (fun i e => .inl e))
                have r4 := k4.row hbS r3
                rw [HXX.out, HTK.out] at J4
                gi_wp2_with fail
                go_roundw
                case rel => exact ⟨p + c', 0, _, _, by rw [HZ.out, hz2.out]; rfl, rfl, by omega, by omega, HQ0, hz0, by rw [show (p + c') / 64 = p / 64 + 1 by have := HE.out; omega]; exact J4, o4, new, r4, Lib.hid (Blk.next HLn.out HZ.out)⟩
                case measure => simp [lenV]; omega
            · rw [if_neg hcm] at hcutN
              gi_wp2_with (first
                | (refine wpListIn_copy_Row rfl _ _ 34 34 rfl 5 Tryd.underlying34 (by kernel_rfl) W.heap.size f (64 - f) (64 - f) (some ⟨b, off, none⟩) n' c' rfl rfl 86 .u8 cur _ hcur (fun _ => ⟨b, off, rfl, hcw⟩) HXL.out mm HMM.out.symm hmm1 (by rw [HCL.out]; omega) ?_; rw [hnew])
                | (refine wpListIn_load_Row rfl 86 _ rfl W.heap.size rfl 86 .u8 new r3 64 5 Tryd.underlying86 info_64 HLn.out ?_))
              all_goals
                refine ⟨fun h => (by cases h), ?_⟩
                refine hR.mono ?_
                rintro e W4 ⟨rfl, J4, k4⟩
                have o4 := o3.trans (k4.mono (fun i e => .inl e))
                have r4 := k4.row hbS r3
                rw [HXX.out, HTK.out] at J4
                gi_wp2_with fail
                go_roundw
                case rel => exact ⟨p + mm, n' - mm, _, _, by rw [HZ.out, hz2.out]; rfl, rfl, by omega, by omega, HQ', hcutN, by rw [show (p + mm) / 64 = p / 64 + 1 by have := HE.out; omega]; exact J4, o4, new, r4, Lib.hid (Blk.next HLn.out HZ.out)⟩
                case measure => simp [lenV]; omega
          · have HB := Lib.hid (HST.out.2.1 hz)
            have hzi : ¬ ((f : Int) + (mm : Int)) % 64 = 0 := by omega
            have hzb : (((f : Int) + (mm : Int)) % 64 == 0) = false := by simpa using hzi
            have HD := Lib.hid (show (p + mm) / 64 = p / 64 by omega)
            have HE := Lib.hid (show ((f : Int) + (mm : Int)) % 64 = (((p + mm) % 64 : Nat) : Int) by omega)
            by_cases hcm : c' = mm
            · rw [if_pos hcm] at hcutN
              subst hcm
              have HQ0 := Lib.hid (show p + c' + 0 = q by have := hq.out; omega)
              have hz0 : IntsN w2 .u8 (fun b => b = st ∨ b = W.heap.size) (some ⟨b, off, none⟩) 0 ((yss.flatten.drop (p + c')).take 0) := ⟨by simp, by simp, fun h => absurd h (by omega)⟩
              gi_wp2_with (refine wpListIn_copy_Row rfl _ _ 34 34 rfl 5 Tryd.underlying34 (by kernel_rfl) W.heap.size f (64 - f) (64 - f) (some ⟨b, off, none⟩) n' c' rfl rfl 86 .u8 cur _ hcur (fun _ => ⟨b, off, rfl, hcw⟩) HXL.out c' HMM.out.symm hmm1 (by rw [HCL.out]; omega) ?_; rw [hnew])
              all_goals
                refine ⟨fun _ h => (by cases h), ?_⟩
                gi_wp2_with fail
                go_roundw
                case rel => exact ⟨p + c', 0, _, _, by rw [HE.out], rfl, by omega, by omega, HQ0, hz0, by rw [HD.out]; exact J3, o3, new, r3, HB⟩
                case measure => simp [lenV]; omega
            · rw [if_neg hcm] at hcutN
              gi_wp2_with (refine wpListIn_copy_Row rfl _ _ 34 34 rfl 5 Tryd.underlying34 (by kernel_rfl) W.heap.size f (64 - f) (64 - f) (some ⟨b, off, none⟩) n' c' rfl rfl 86 .u8 cur _ hcur (fun _ => ⟨b, off, rfl, hcw⟩) HXL.out mm HMM.out.symm hmm1 (by rw [HCL.out]; omega) ?_; rw [hnew])
              all_goals
                refine ⟨fun _ h => (by cases h), ?_⟩
                gi_wp2_with fail
                go_roundw
                case rel => exact ⟨p + mm, n' - mm, _, _, by rw [HE.out], rfl, by omega, by omega, HQ', hcutN, by rw [HD.out]; exact J3, o3, new, r3, HB⟩
                case measure => simp [lenV]; omega
        · have hn0 : n' = 0 := by omega
          subst hn0
          have hpq : Hid (p = q) := Lib.hid (by have := hq.out; omega)
          gi_wp2_with fail
          go_roundw
          case rel => exact ⟨k + 1, q, by omega, by go_num, HQ2, by rw [← hpq.out], by rw [← hpq.out]; exact hJp, hon, cur, hcur, by rw [← hpq.out]; exact hblk⟩
          case measure => simp [intOf]; omega
    · have hkm : k = m + 1 := by omega
      subst hkm
      have hpe : p = yss.flatten.length := by
        have := hp.out
        rw [List.take_of_length_le (by rw [HY.out]; omega)] at this
        exact this
      have hall2 : (chunks yss.flatten).take (p / 64) = chunks (xss.flatten ++ padI xss.flatten.length) := by
        rw [HM.out, List.take_of_length_le (by rw [chunks_length, hpe]; omega)]
      have HA := Lib.hid hall2
      clear hall2 hpe
      gi_wp2_with fail
      go_end0
      exact ⟨⟨_, rfl⟩, by rw [← HA.out]; exact hJp⟩
end Go.Proofs.YtoelgcdjhekafaaDoor.Sha
