/-
  Where every activation may run, what is shown of a region without a fence holds within a round, and within an iterator, too: no program here. No conditions beyond those stated.
-/
import Derived.Test.YtdfnacnklmmjhaaHeld
import Derived.Test.YtdfnacnklmmjhaaStop
import Derived.Test.YtdfnacnklmmjhaaCopy
import Derived.OrdersIn
namespace Go.Proofs.Ytdfnacnklmmjhaa.Held
open Go.RowKit
set_option linter.unusedVariables false

/-- every activation may run; r: of which round -/
def wideR (r : Option Nat) : Fence := { Fence.wide with round := r }
theorem wideR_none : wideR none = Fence.wide := rfl
theorem wideR_some (l : Nat) : wideR (some l) = Fence.wide.inRound l := rfl

section
variable {P : Program} {ops : Array Oper} {Q : Exit → Act → World → Prop} {n : Nat} {r : Option Nat}
theorem calls_wideR {f : FuncId} {args : Array Value} {w : World} {R : Ending → World → Prop} (h : Calls P f args w R) : CallsIn (wideR r) n P f args w R :=
  (callsIn_wide (n := n)).2 h
theorem rows_wideR {row : String} {args : Array Value} {w : World} {R : Value → World → Prop} (h : Rows P row args w R) : RowsIn (wideR r) n P row args w R := fun c cs _ => by
  obtain ⟨v, w', hR, hs⟩ := h c cs
  exact ⟨v, w', hR, stepsIn_wide.2 hs⟩
theorem opIn_of_op {o : Oper} (ho : ∀ c, o.op ≠ .defer c) {K : Act → World → Prop} {a : Act} {w : World} (h : o.wp P a w K Q) : o.wpIn (wideR r) n P a w K Q := by
  refine ⟨fun _ _ => trivial, ?_⟩
  rw [Oper.semAt_plain (wideR r) _ _ ho]
  unfold Oper.wp at h
  generalize (execOp a.eval o).run P w = x at h
  cases x with
  | ok y w' =>
    cases y with
    | value v => exact h
    | skip => exact h
    | «defer» d => exact h
    | enter f args =>
      refine ⟨fun hd => absurd (show false = true from hd) (by simp), (calls_wideR (r := r) h).mono fun e w'' he => ?_⟩
      cases e <;> exact he
    | row row args => exact ⟨fun hd => absurd (show false = true from hd) (by simp), rows_wideR h⟩
    | _ => exact h.elim
  | halt y w' => cases y <;> exact h
def noDefer (ops : Array Oper) : Bool := ops.all fun o => match o.op with | .defer _ => false | _ => true
theorem noDefer_spec (h : noDefer ops = true) {i : Nat} {o : Oper} (hi : ops[i]? = some o) : ∀ c, o.op ≠ .defer c := by
  intro c e
  have hlt := (Array.getElem?_eq_some_iff.1 hi).1
  have := (Array.all_eq_true.1 h) i hlt
  rw [(Array.getElem?_eq_some_iff.1 hi).2, e] at this
  cases this
theorem opsIn_of_op (hd : noDefer ops = true) (hq : ∀ a w, ¬ Q .outgrown a w) {i : Nat} {K : Act → World → Prop} {a : Act} {w : World} (h : wpOp P ops Q i K a w) : wpOpIn (wideR r) n P ops Q i K a w := by
  unfold wpOp at h
  unfold wpOpIn
  cases hi : ops[i]? with
  | none => simpa only [hi] using h
  | some o =>
    simp only [hi] at h ⊢
    split
    · rename_i hw
      simp only [hw, if_true] at h
      rcases h with h | ⟨_, a', w', hl⟩
      · exact opIn_of_op (noDefer_spec hd hi) h
      · exact (hq _ _ hl).elim
    · rename_i hw
      simp only [hw] at h
      exact ⟨fun _ _ => trivial, h⟩
theorem anyIn_of_any {md : Region.Mode} (hd : noDefer ops = true) (hq : ∀ a w, ¬ Q .outgrown a w) : ∀ (fuel : Nat) (listed : Array Bool) (a : Act) (w : World), wpAny P md ops Q fuel listed a w → wpAnyIn (wideR r) n P md ops Q fuel listed a w
  | 0, _, _, _, h => h
  | fuel + 1, _, _, _, h => ⟨h.1, fun i hi => wpOpIn_mono (fun a' w' h' => anyIn_of_any hd hq fuel _ a' w' h') (opsIn_of_op hd hq (h.2 i hi))⟩
theorem listIn_of_list (hd : noDefer ops = true) (hq : ∀ a w, ¬ Q .outgrown a w) : ∀ (l : List Oper) (a : Act) (w : World), (∀ o ∈ l, ∀ c, o.op ≠ .defer c) → wpList P ops Q l a w → wpListIn (wideR r) n P ops Q l a w
  | [], _, _, _, h => h
  | o :: rest, a, w, hl, h => by
    unfold wpList at h
    unfold wpListIn
    split
    · rename_i hw
      simp only [hw, if_true] at h
      rcases h with h | ⟨_, a', w', hx⟩
      · exact Oper.wpIn_mono (fun a' w' h' => listIn_of_list hd hq rest a' w' (fun o ho => hl o (List.mem_cons_of_mem _ ho)) h') (opIn_of_op (hl o List.mem_cons_self) h)
      · exact (hq _ _ hx).elim
    · rename_i hw
      simp only [hw] at h
      exact ⟨fun _ _ => trivial, listIn_of_list hd hq rest _ w (fun o ho => hl o (List.mem_cons_of_mem _ ho)) h⟩

/-- a region that draws its order, within a round or an iterator -/
theorem wpIn_region_heldR {F : Fence} (hF : F = wideR r) {S : World → Prop} {id : Nat} {a : Act} {w : World} (hm : P.follows .mixedOrders = true) (hd : noDefer ops = true) (hq : ∀ a w, ¬ Q .outgrown a w)
    (h : wpAnyH P .any ops Q S ops.size (Array.replicate ops.size false) a { w with drawn := w.drawn + 1 }) : (Code.region id ops true).wpIn F n P Q a w := by
  subst hF
  exact wpIn_region_any hm (anyIn_of_any hd hq _ _ _ _ (wpAny_of_held _ _ _ _ h))
/-- a region of one order, within a round or an iterator -/
theorem wpIn_region_plainR {F : Fence} (hF : F = wideR r) {id : Nat} {l : List Oper} {a : Act} {w : World} (hd : noDefer l.toArray = true) (hq : ∀ a w, ¬ Q .outgrown a w)
    (h : wpList P l.toArray Q l a w) : (Code.region id l.toArray false).wpIn F n P Q a w := by
  subst hF
  refine wpIn_region_lit (listIn_of_list hd hq l a w (fun o ho c e => ?_) h)
  obtain ⟨i, hi, rfl⟩ := List.mem_iff_getElem.1 ho
  exact noDefer_spec hd (i := i) (o := l[i]) (by simp [hi]) c e
end

section
variable {P : Program} {ops : Array Oper} {Q : Exit → Act → World → Prop} {S : World → Prop}
/-- a load, carried out -/
theorem op_load (i : Nat) (d : Option Tmp) {o : Oper} {a : Act} {w : World} {K : Act → World → Prop} (ty : TypeId) {x : Operand} (p : Addr) (v : Value) (hi : ops[i]? = some o) (hd : o.dst = d) (hw : Region.wanted o (yielded ops a.tmps) = true)
    (ho : o.op = .load ty x) (hx : a.eval x = .pointer (some p)) (hr : (loadVar ty p).run P w = .ok v w) (h : K (a.put d v) w) : wpOp P ops Q i K a w := by
  subst hd
  refine op_wp i hi hw ?_
  unfold Oper.wp execOp
  simp only [ho, hx, Instr.loadAt, Instr.sureAddr, Sem.run_bind, Sem.run_pure, Result.andThen_ok, hr]
  exact h
/-- a new array of zeros -/
theorem op_alloc_Row (i : Nat) (d : Option Tmp) {o : Oper} {a : Act} {w : World} {K : Act → World → Prop} (ty : TypeId) (k : IntKind) (m : Nat) (hi : ops[i]? = some o) (hd : o.dst = d) (hw : Region.wanted o (yielded ops a.tmps) = true)
    (ho : o.op = .alloc ty) (hz : (P.info? ty).bind (·.zero) = some (.agg (Mem.arr k (List.replicate m 0))))
    (h : ∀ g w', Mem.Row w' g ty k (List.replicate m 0) → Below w.heap.size w w' → Hid (w.heap.size ≤ g) → K (a.put d (.pointer (some ⟨g, 0, none⟩))) w') : wpOp P ops Q i K a w := by
  subst hd
  refine op_wp i hi hw ?_
  unfold Oper.wp execOp
  simp only [ho, Mem.run_alloc_arr ty k m hz, Sem.run_bind, Sem.run_pure, Result.andThen_ok]
  exact h _ _ (Mem.Row.new w ty (Mem.zeros_wf k m)) ((Below.refl _ w).alloc (Nat.le_refl _) _) (Lib.hid (Nat.le_refl _))
end
end Go.Proofs.Ytdfnacnklmmjhaa.Held
namespace Go.Proofs.Ytdfnacnklmmjhaa.Held
open Go.RowKit
/-- a type of one cell that is neither a struct nor an array -/
def plainT (P : Program) (ty : TypeId) : Bool := match P.underlying ty with | some (.struct _) => false | some (.array _ _) => false | some _ => true | none => false
theorem run_loadVar_cell {P : Program} (ty : TypeId) (p : Addr) (w : World) (v : Value) (hp : plainT P ty = true) (hc : w.cell? p = some v) : (loadVar ty p).run P w = .ok v w := by
  unfold plainT at hp
  cases hu : P.underlying ty with
  | none => rw [hu] at hp; cases hp
  | some d =>
    rw [hu] at hp
    cases d <;> first | (cases hp; done) | simp [loadVar, isAgg, run_underlying hu, Sem.run_bind, Result.andThen, hc]
section
variable {P : Program} {S : World → Prop} {ρ : Operand → Value} {o : Oper}
theorem y_load {ty : TypeId} {x : Operand} {p : Addr} {v : Value} (ho : o.op = .load ty x) (hx : ρ x = .pointer (some p)) (hp : plainT P ty = true) (hc : ∀ w, S w → w.cell? p = some v) : ∀ w, S w → (execOp ρ o).run P w = .ok (.value v) w := fun w hw => by
  simp only [execOp, ho, hx, Instr.loadAt, Instr.sureAddr, Sem.run_bind, Sem.run_pure, Result.andThen_ok, run_loadVar_cell ty p w v hp (hc w hw)]
end
/-- a whole array stored, the new world a letter -/
theorem op_store_RowL {P : Program} {ops : Array Oper} {Q : Exit → Act → World → Prop} (i : Nat) (d : Option Tmp) {o : Oper} {a : Act} {w : World} {K : Act → World → Prop} (ty : TypeId) {x y : Operand} (g : Nat) (t : TypeId) (k : IntKind) (old zs : List Int) (hi : ops[i]? = some o) (hd : o.dst = d) (hw : Region.wanted o (yielded ops a.tmps) = true)
    (ho : o.op = .store ty x y) (hx : a.eval x = .pointer (some ⟨g, 0, none⟩)) (hy : a.eval y = .agg (Mem.arr k zs)) (hrow : Mem.Row w g t k old) (n : Nat) (hsz : (P.info? ty).map (·.size) = some n) (hn : zs.length = n) (ho' : old.length = n) (hwf : ∀ z ∈ zs, (Lit.int k z).wf = true)
    (h : ∀ w', Mem.Row w' g t k zs → w.grownBy w' (some g) → K (a.put d undef) w') : wpOp P ops Q i K a w :=
  op_store_Row i d ty g t k old zs hi hd hw ho hx hy hrow n hsz hn ho' (h _ (hrow.setRow hwf) (Mem.grown_setRow _ _ _))
/-- numbers, as the values of a list -/
theorem ints_of_vals {w : World} {B : Nat} {A : Option Addr} {n : Nat} {k : IntKind} {zs : List Int} (h : Mem.Vals w B A n (zs.map (Value.int k))) (hwf : ∀ z ∈ zs, (Lit.int k z).wf = true) : Mem.Ints w k B A n zs :=
  ⟨by simpa using h.1, hwf, fun h0 => by
    obtain ⟨b, off, e, hb, hc⟩ := h.2.2 h0
    refine ⟨b, off, e, hb, fun i hi => ?_⟩
    have hl : i < zs.length := by have := h.1; simp at this; omega
    rw [hc i hi]
    simp [List.getD_eq_getElem?_getD, hl]⟩
end Go.Proofs.Ytdfnacnklmmjhaa.Held

