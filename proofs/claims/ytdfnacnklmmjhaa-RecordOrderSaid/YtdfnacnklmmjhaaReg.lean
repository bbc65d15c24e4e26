/-
  More operations of a drawn region, one by one: make, append with new room, texts that are not alike; dominohelp.Bytes of like texts. No conditions beyond those stated.
-/
import Derived.Test.YtdfnacnklmmjhaaTxt
import Derived.Test.YtdfnacnklmmjhaaHelp
import Derived.Deep.OwnRows
namespace Go.Proofs.Ytdfnacnklmmjhaa.Held
open Go.RowKit Go.Proofs.Ytdfnacnklmmjhaa.Mem
set_option linter.unusedVariables false

section
variable {P : Program} {ops : Array Oper} {Q : Exit → Act → World → Prop}
/-- make([]T, n), n said by a constant -/
theorem op_make_Row (i : Nat) (d : Option Tmp) {o : Oper} {a : Act} {w : World} {K : Act → World → Prop} (t e : TypeId) (k : IntKind) (bytes n : Nat) {l c : Operand} (kl kc : IntKind) (hi : ops[i]? = some o) (hd : o.dst = d) (hw : Region.wanted o (yielded ops a.tmps) = true)
    (ho : o.op = .makeSlice t l c) (hu : P.underlying t = some (.slice e)) (hinfo : (P.info? e).map (fun i => (i.zero, i.size, i.bytes)) = some (some (.int k 0), 1, bytes)) (hl : a.eval l = .int kl (n : Int)) (hc : a.eval c = .int kc (n : Int)) (hb : bytes * n ≤ 281474976710656) (hn : n ≤ 9223372036854775807)
    (h : ∀ g w', Row w' g e k (List.replicate n 0) → Below w.heap.size w w' → Hid (w.heap.size ≤ g) → K (a.put d (.slice (some ⟨g, 0, none⟩) n n)) w') : wpOp P ops Q i K a w := by
  subst hd
  refine op_wp i hi hw ?_
  have hrun := Go.run_make_row' (P := P) t e (.int k 0) bytes hu hinfo rfl kl kc n hb hn w
  unfold Oper.wp execOp
  simp only [ho, hl, hc, hrun, Sem.run_bind, Sem.run_pure, Result.andThen_ok]
  refine h _ _ ?_ ((Below.refl _ w).alloc (Nat.le_refl _) _) (Lib.hid (Nat.le_refl _))
  rw [made_zeros]
  exact Row.new w e (zeros_wf k n)
/-- append of numbers that read as a list, onto what the call owns -/
theorem op_append_ints (i : Nat) (d : Option Tmp) {o : Oper} {a : Act} {w : World} {K : Act → World → Prop} {s x : Operand} (ts : TypeId) (hi : ops[i]? = some o) (hd : o.dst = d) (hw : Region.wanted o (yielded ops a.tmps) = true)
    (ho : o.op = .call { callee := .builtin .append, args := #[s, x], argTypes := #[ts, ts] }) (base : Nat) (e : TypeId) (k : IntKind) (bytes : Nat) (ht : P.underlying ts = some (.slice e))
    (hinfo : (P.info? e).map (fun i => (i.zero, i.size, i.bytes)) = some (some (.int k 0), 1, bytes)) (v : Value) (zs : List Int) (hs : a.eval s = v) (hown : Mem.Own w base e k v zs)
    (B : Nat) (A : Option Addr) (m c : Nat) (xs : List Int) (hx : a.eval x = .slice A m c) (hr : Ints w k B A m xs) (hlen : zs.length + m ≤ 17592186044416) (hby : bytes ≤ 8) (hbase : base ≤ w.heap.size)
    (h : ∀ A' n' c' w', Mem.Own w' base e k (.slice A' n' c') (zs ++ xs) → w.grownBy w' v.ownBlock → n' ≤ c' → c' ≤ maxLen → Hid ((zs ++ xs).length = n') → Ints w' k w'.heap.size A' n' (zs ++ xs) → K (a.put d (.slice A' n' c')) w') : wpOp P ops Q i K a w := by
  subst hd
  refine op_wp i hi hw ?_
  obtain ⟨v', w', hrun, h2, h3, _⟩ := run_append_ints (P := P) w base ts o.type e k bytes ht hinfo v zs hown B A m c xs hr hlen hby hbase
  obtain ⟨A', c', rfl, h4, h5, h6⟩ := h2.form
  exact Lib.wp_append_run w s x ts ts ho _ _ hs hx _ w' hrun (h _ _ _ w' h2 h3 h4 h5 (Lib.hid rfl) h6)
end
section
variable {P : Program} {S : World → Prop} {ρ : Operand → Value} {o : Oper}
theorem y_nes {t ty : TypeId} {x y : Operand} {s : ByteArray} (ho : o.op = .binOp .neq t x y ty) (hx : ρ x = .string s) (hy : ρ y = .string s) :
    ∀ w, S w → (execOp ρ o).run P w = .ok (.value (.bool false)) w := y_bin ho hx hy (fun w => by simp [eqGuard]) (fun w => by simp [binOp, Op.stringOp])
end
section
variable {P : Program} {ops : Array Oper} {Q : Exit → Act → World → Prop}
/-- append onto what the call owns; rows apart from it stay, and stay apart -/
theorem op_append_keep (i : Nat) (d : Option Tmp) {o : Oper} {a : Act} {w : World} {K : Act → World → Prop} {s x : Operand} (ts : TypeId) (hi : ops[i]? = some o) (hd : o.dst = d) (hw : Region.wanted o (yielded ops a.tmps) = true)
    (ho : o.op = .call { callee := .builtin .append, args := #[s, x], argTypes := #[ts, ts] }) (base : Nat) (e : TypeId) (k : IntKind) (bytes : Nat) (ht : P.underlying ts = some (.slice e))
    (hinfo : (P.info? e).map (fun i => (i.zero, i.size, i.bytes)) = some (some (.int k 0), 1, bytes)) (v : Value) (zs : List Int) (hs : a.eval s = v) (hown : Mem.Own w base e k v zs)
    (B : Nat) (A : Option Addr) (m c : Nat) (xs : List Int) (hx : a.eval x = .slice A m c) (hr : Ints w k B A m xs) (hlen : zs.length + m ≤ 17592186044416) (hby : bytes ≤ 8) (hbase : base ≤ w.heap.size)
    (h : ∀ A' n' c' w', Mem.Own w' base e k (.slice A' n' c') (zs ++ xs) → w.grownBy w' v.ownBlock → n' ≤ c' → c' ≤ maxLen → Hid ((zs ++ xs).length = n') → Ints w' k w'.heap.size A' n' (zs ++ xs) →
      (∀ p t q ys, Row w p t q ys → some p ≠ v.ownBlock → Row w' p t q ys ∧ some p ≠ (Value.slice A' n' c').ownBlock) → K (a.put d (.slice A' n' c')) w') : wpOp P ops Q i K a w := by
  subst hd
  refine op_wp i hi hw ?_
  obtain ⟨v', w', hrun, h2, h3, h3'⟩ := run_append_ints (P := P) w base ts o.type e k bytes ht hinfo v zs hown B A m c xs hr hlen hby hbase
  obtain ⟨A', c', rfl, h4, h5, h6⟩ := h2.form
  refine Lib.wp_append_run w s x ts ts ho _ _ hs hx _ w' hrun (h _ _ _ w' h2 h3 h4 h5 (Lib.hid rfl) h6 fun p t q ys hrow hne => ⟨hrow.grown h3 hne, ?_⟩)
  rcases h3' with e1 | e1
  · rw [e1]; exact hne
  · rw [e1]
    intro e2
    injection e2 with e2
    have := hrow.lt
    omega
/-- a new list of numbers, as a row of its own -/
theorem op_build_Row (i : Nat) (d : Option Tmp) {o : Oper} {a : Act} {w : World} {K : Act → World → Prop} (t e : TypeId) (len : Nat) {parts : Array (Nat × Operand)} (k : IntKind) (bytes : Nat) (zs : List Int) (hi : ops[i]? = some o) (hd : o.dst = d) (hw : Region.wanted o (yielded ops a.tmps) = true)
    (ho : o.op = .buildSlice t len parts) (hu : P.underlying t = some (.slice e)) (hinfo : (P.info? e).map (fun i => (i.zero, i.size, i.bytes)) = some (some (.int k 0), 1, bytes))
    (hp : (parts.map fun (i, x) => (i, a.eval x)).toList = ((zs.map (Value.int k)).zipIdx 0).map fun x => (x.2, x.1)) (hl : zs.length = len) (h0 : 0 < len) (hlen : len ≤ 1000) (hwf : ∀ z ∈ zs, (Lit.int k z).wf = true)
    (h : ∀ p w', Row w' p e k zs → Below w.heap.size w w' → Hid (w.heap.size ≤ p) → K (a.put d (.slice (some ⟨p, 0, none⟩) len len)) w') : wpOp P ops Q i K a w := by
  subst hd
  refine op_wp i hi hw ?_
  obtain ⟨ie, hie, hz, hsz, _⟩ := info_parts hinfo
  have hl' : (zs.map (Value.int k)).length = len := by simpa using hl
  have h' := h w.heap.size _ (Row.new w e hwf) ((Below.refl _ w).alloc (Nat.le_refl _) _) (Lib.hid (Nat.le_refl _))
  unfold arr at h'
  have h1 : ∀ v ∈ zs.map (Value.int k), v.cells = #[v] := by intro v hv; obtain ⟨z, _, rfl⟩ := List.mem_map.1 hv; rfl
  generalize zs.map (Value.int k) = vs at hp hl' h' h1
  subst hl'
  refine Go.wp_buildSlice t e vs.length parts ho vs.toArray ie (.int k 0) hu hie hz (by rw [hsz]; omega) (by rw [hsz]; omega) ?_ h'
  rw [hp]
  simp only [hsz]
  exact Go.Great.fill_flat vs _ h1 (by simp)
end
theorem apart_new {w : World} {base p : Nat} {t : TypeId} {k : IntKind} {v : Value} {zs : List Int} (h : Mem.Own w base t k v zs) (hp : w.heap.size ≤ p) : some p ≠ v.ownBlock := fun e => by
  have := (h.2.lt p e.symm).2
  omega
end Go.Proofs.Ytdfnacnklmmjhaa.Held

