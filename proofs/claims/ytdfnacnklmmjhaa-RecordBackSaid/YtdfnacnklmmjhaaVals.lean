/-
  Slices of values of one cell each (slices of slices among them): no program here. No conditions beyond those stated.
-/
import Derived.Test.YtdfnacnklmmjhaaArr
import Derived.Lib.AppendZerosOnto
namespace Go.Proofs.Ytdfnacnklmmjhaa.Mem
open Go.RowKit
set_option linter.unusedVariables false

/-- the slice at A, of n cells, below block B, reads as the list vs -/
def Vals (w : World) (B : Nat) (A : Option Addr) (n : Nat) (vs : List Value) : Prop :=
  vs.length = n ∧ (∀ v ∈ vs, v.oneCell' = true) ∧ (0 < n → ∃ b off, A = some ⟨b, off, none⟩ ∧ b < B ∧ ∀ i, i < n → w.cell? ⟨b, off + i, none⟩ = some (vs.getD i undef))

section
variable {w w' : World} {B B' n : Nat} {A : Option Addr} {vs : List Value}
theorem Vals.nil (w : World) (B : Nat) (A : Option Addr) : Vals w B A 0 [] := ⟨rfl, by simp, fun h => absurd h (by omega)⟩
theorem Vals.keep (h : Vals w B A n vs) (hk : ∀ p : Addr, p.block < B → w'.cell? p = w.cell? p) : Vals w' B A n vs :=
  ⟨h.1, h.2.1, fun hn => by
    obtain ⟨b, off, e, hb, hc⟩ := h.2.2 hn
    exact ⟨b, off, e, hb, fun i hi => (hk ⟨b, off + i, none⟩ hb).trans (hc i hi)⟩⟩
theorem Vals.more (h : Vals w B A n vs) (hB : B ≤ B') : Vals w B' A n vs :=
  ⟨h.1, h.2.1, fun hn => by
    obtain ⟨b, off, e, hb, hc⟩ := h.2.2 hn
    exact ⟨b, off, e, by omega, hc⟩⟩
theorem Vals.below (h : Vals w B A n vs) (hb : Below B w w') : Vals w' B A n vs := h.keep fun _ hp => hb.cell hp
theorem Vals.drewN (h : Vals w B A n vs) (m : Nat) : Vals (w.drewN m) B A n vs := h
theorem Vals.alloc (h : Vals w B A n vs) (hB : B ≤ w.heap.size) (o : Obj) : Vals (w.alloc o) B A n vs := h.keep fun p hp => World.cell?_alloc_lt w o p (by omega)
theorem Vals.at_ (h : Vals w B A n vs) {i : Nat} (hi : i < n) : ∃ b off, A = some ⟨b, off, none⟩ ∧ b < B ∧ w.cell? ⟨b, off + i, none⟩ = some (vs.getD i undef) := by
  obtain ⟨b, off, e, hb, hc⟩ := h.2.2 (by omega)
  exact ⟨b, off, e, hb, hc i hi⟩
end

theorem Vals.new (w : World) (t : TypeId) (vs : List Value) (h1 : ∀ v ∈ vs, v.oneCell' = true) : Vals (w.alloc (.cells vs.toArray t)) (w.heap.size + 1) (some ⟨w.heap.size, 0, none⟩) vs.length vs :=
  ⟨rfl, h1, fun hn => ⟨w.heap.size, 0, rfl, by omega, fun i hi => by
    rw [cell_of_row _ _ _ _ t (0, 0) (heap_alloc_new w _)]
    simp [List.getD_eq_getElem?_getD, hi]⟩⟩

theorem ownsRow_vals {w : World} {base : Nat} {e : TypeId} {A : Option Addr} {n c : Nat} {vs : List Value} (h : w.ownsRow base e 1 (.slice A n c) n vs) (h1 : ∀ v ∈ vs, v.oneCell' = true) : Vals w w.heap.size A n vs := by
  have hl : vs.length = n := by simpa using h.1
  refine ⟨hl, h1, fun hn => ?_⟩
  rcases h.2 with ⟨hv, h0⟩ | ⟨g, cap, cur, hv, hb, hg, hnc, hcm, hcs, ht⟩
  · omega
  · injection hv with e1 e2 e3
    subst e1
    refine ⟨g, 0, rfl, (Array.getElem?_eq_some_iff.1 hg).1, fun i hi => ?_⟩
    have hc := h.cells (g := g) rfl i (vs.getD i undef) (by simp [List.getD_eq_getElem?_getD, show i < vs.length by omega])
    have e : (Addr.mk g 0 none).add i = ⟨g, 0 + i, none⟩ := by unfold Addr.add; split <;> simp_all
    rwa [e] at hc

/-- append, of a list of values (nil or not), onto what the call owns -/
theorem run_append_vals {P : Program} (w : World) (base : Nat) (ts ty e : TypeId) (z : Value) (bytes : Nat) (ht : P.underlying ts = some (.slice e))
    (hinfo : (P.info? e).map (fun i => (i.zero, i.size, i.bytes)) = some (some z, 1, bytes)) (hzc : z.cells.size = 1) (v : Value) (n : Nat) (zs : List Value) (hown : w.ownsRow base e 1 v n zs)
    (B : Nat) (A : Option Addr) (m c : Nat) (xs : List Value) (hr : Vals w B A m xs) (hlen : n + m ≤ 1099511627776) (hby : bytes ≤ 64) (hbase : base ≤ w.heap.size) :
    ∃ v' w', (Builtin.append_ #[ts, ts] ty #[v, .slice A m c]).run P w = .ok v' w' ∧ w'.ownsRow base e 1 v' (n + m) (zs ++ xs) ∧ w.grownBy w' v.ownBlock ∧
      (v'.ownBlock = v.ownBlock ∨ v'.ownBlock = some w.heap.size) := by
  obtain ⟨i, hi, hz, hsz, hb⟩ := info_parts hinfo
  have hxl := hr.1
  rcases A with _ | ad
  · have hm : m = 0 := by
      rcases Nat.eq_zero_or_pos m with h0 | h0
      · exact h0
      · obtain ⟨_, _, h, _⟩ := hr.2.2 h0
        cases h
    subst hm
    have hx : xs = [] := List.eq_nil_of_length_eq_zero hxl
    subst hx
    refine ⟨v, w, ?_, by simpa using hown, World.grownBy.refl w _, .inl rfl⟩
    rcases hown.2 with ⟨rfl, hn0⟩ | ⟨g, cap, cur, rfl, _, _, hnc, _⟩
    · simp [Builtin.append_, run_underlying ht, sizeOf, typeInfo, hi, Builtin.lenOf, Builtin.firstCells]
    · simp [Builtin.append_, run_underlying ht, sizeOf, typeInfo, hi, Builtin.lenOf, Builtin.firstCells, hnc, storeCells]
  · have hcells : ∀ j u, xs[j]? = some u → w.cell? (ad.add j) = some u := by
      intro j u hu
      have hj : j < m := by
        have := (List.getElem?_eq_some_iff.1 hu).1
        omega
      obtain ⟨b, off, h, _, hc⟩ := hr.at_ hj
      injection h with h
      subst h
      have e : (Addr.mk b off none).add j = ⟨b, off + j, none⟩ := by unfold Addr.add; split <;> simp_all
      rw [e, hc, ← hu]
      simp [List.getD_eq_getElem?_getD, show j < xs.length by omega]
    obtain ⟨v', w', hrun, h2, h3, _, h5⟩ := run_append_own_at (P := P) w base ts ty e i z 1 bytes ht hi hz hsz hb hzc (by omega) v n zs hown ad m c
      xs (by simp [hxl]) hcells hr.2.1 (by simp only [maxLen]; omega) (Nat.le_trans (Nat.mul_le_mul hlen hby) (by omega)) hbase
    exact ⟨v', w', hrun, h2, h3, h5⟩

theorem wpList_append_vals {P : Program} (w : World) {ops : Array Oper} {rest : List Oper} {o : Oper} {a : Act} {Q : Exit → Act → World → Prop} (hgd : o.guard = none) (s x : Operand) (ts : TypeId)
    (ho : o.op = .call { callee := .builtin .append, args := #[s, x], argTypes := #[ts, ts] }) (base : Nat) (e : TypeId) (z : Value) (bytes : Nat) (ht : P.underlying ts = some (.slice e))
    (hinfo : (P.info? e).map (fun i => (i.zero, i.size, i.bytes)) = some (some z, 1, bytes)) (hzc : z.cells.size = 1) (v : Value) (n : Nat) (zs : List Value) (hs : a.eval s = v) (hown : w.ownsRow base e 1 v n zs)
    (B : Nat) (A : Option Addr) (m c : Nat) (xs : List Value) (hx : a.eval x = .slice A m c) (hr : Vals w B A m xs) (hlen : n + m ≤ 1099511627776) (hby : bytes ≤ 64) (hbase : base ≤ w.heap.size)
    (h : ∀ v' w', w'.ownsRow base e 1 v' (n + m) (zs ++ xs) → w.grownBy w' v.ownBlock → (v'.ownBlock = v.ownBlock ∨ v'.ownBlock = some w.heap.size) → wpList P ops Q rest (a.put o.dst v') w') :
    wpList P ops Q (o :: rest) a w := by
  obtain ⟨v', w', hrun, h2, h3, h4⟩ := run_append_vals (P := P) w base ts o.type e z bytes ht hinfo hzc v n zs hown B A m c xs hr hlen hby hbase
  exact Lib.wpList_append_run w hgd s x ts ts ho v (.slice A m c) hs hx v' w' hrun (h v' w' h2 h3 h4)

/-- room for n, made of nothing -/
theorem run_grow_nil {P : Program} (w : World) (t tn ty e : TypeId) (z : Value) (bytes : Nat) (kn : IntKind) (ht : P.underlying t = some (.slice e)) (htn : P.underlying tn = some (.int kn))
    (hinfo : (P.info? e).map (fun i => (i.zero, i.size, i.bytes)) = some (some z, 1, bytes)) (hzc : z.cells.size = 1) (n : Nat) (h0 : 0 < n) (hn : n ≤ 1099511627776) (hby : bytes ≤ 64) :
    ∃ cap w', (Builtin.append_ #[t, tn] ty #[.slice none 0 0, .int .i64 (n : Int)]).run P w = .ok (.slice (some ⟨w.heap.size, 0, none⟩) n cap) w' ∧ n ≤ cap ∧ w'.ownsRow w.heap.size e 1 (.slice (some ⟨w.heap.size, 0, none⟩) 0 cap) 0 [] ∧ w.grownBy w' none ∧ cap ≤ maxLen := by
  obtain ⟨i, hi, hz, hsz, hb⟩ := info_parts hinfo
  have hge := grownCap_ge w n 0 e
  have hle := grownCap_le_maxLen w n 0 e (by unfold maxLen; omega)
  have hrun := Lib.run_append_nil_zeros (P := P) w t tn ty e i z .i64 kn ht htn hi hz n h0 (by omega) (by omega) (by rw [hb]; exact Nat.le_trans (Nat.mul_le_mul hn hby) (by omega))
  refine ⟨_, _, hrun, hge, ⟨rfl, .inr ⟨w.heap.size, _, _, rfl, Nat.le_refl _, heap_alloc_new w.drew _, Nat.zero_le _, hle, ?_, rfl⟩⟩, ⟨rfl, rfl, rfl, by simp, fun k hk _ => Below.heap_alloc w.drew _ k hk⟩, hle⟩
  simp only [Array.size_append, size_zeroCells, hzc, Nat.mul_one]
  omega
end Go.Proofs.Ytdfnacnklmmjhaa.Mem

