/-
  Which of two records stands ahead; the document's own sort, and neighbours that change places in rounds, as plain functions: they are the same.
  One struct stored into a list whose block is known whole: no program here.
  Package merge's leads and settle by their contracts: which of two records stands ahead by either order; two neighbours of a list of the call's own.
  Lists of structs in a block that is filled step by step; append within the room: no program here.
  Appending a list of structs of any length, none among them, onto a list of the call's own; the library's slices.Clone and slices.Grow of records, by their contracts.
  The document's own tasks (package dominoref17's sorts and Tasks), by their contracts.
  The document's own spots (package dominoref17's behind and Last), by their contracts.
  What the document's tasks write (package dominoref17's writes), by its contract.
-/
import Derived.Test.YtipmfficjomcoaaDoorB5
import Derived.Test.YtipmfficjomcoaaDoorB6
import Derived.Test.YtipmfficjomcoaaDoorB3
import Derived.OwnWalk
import Derived.Lib.LazyBuf
import Derived.Test.YtipmfficjomcoaaDoorB11
import Derived.Test.YtipmfficjomcoaaDoorB4
import Derived.Test.YtipmfficjomcoaaDoorB10
set_option linter.unusedVariables false
namespace Go.Proofs.YtipmfficjomcoaaDoor.Mg
open Rc Rs
section
variable (seq : Bool)
def lead (a b : R) : Bool := if seq then bef a.d a.k a.s b.d b.k b.s else ahd a.d a.k b.d b.k
theorem lead_irr (a : R) : lead seq a a = false := by
  unfold lead bef ahd
  cases a.d <;> cases seq <;> simp
theorem lead_neg {a b c : R} (h1 : lead seq a b = false) (h2 : lead seq b c = false) : lead seq a c = false := by
  unfold lead bef ahd at *
  cases seq <;> simp only [Bool.false_eq_true, if_false, if_true, Bool.and_eq_false_iff, Bool.not_eq_false', Bool.or_eq_false_iff, decide_eq_false_iff_not] at *
  · rcases h1 with h1 | ⟨hb, h1⟩
    · exact .inl h1
    · rcases h2 with h2 | ⟨hc, h2⟩
      · rw [hb] at h2; cases h2
      · exact .inr ⟨hc, by omega⟩
  · rcases h1 with h1 | ⟨hb, h1⟩
    · exact .inl h1
    · rcases h2 with h2 | ⟨hc, h2⟩
      · rw [hb] at h2; cases h2
      · exact .inr ⟨hc, by omega⟩
def Srt : List R → Prop
  | [] => True
  | [_] => True
  | a :: b :: l => lead seq b a = false ∧ Srt (b :: l)
theorem Srt.tail {a : R} {l : List R} (h : Srt seq (a :: l)) : Srt seq l := by
  cases l with
  | nil => trivial
  | cons b l => exact h.2
theorem Srt.head {a : R} : ∀ {l : List R}, Srt seq (a :: l) → ∀ x ∈ l, lead seq x a = false
  | [], _, x, hx => by simp at hx
  | b :: l, h, x, hx => by
    rcases List.mem_cons.1 hx with rfl | hx
    · exact h.1
    · exact lead_neg seq (Srt.head (a := b) h.2 x hx) h.1
theorem srt_iff : ∀ (l : List R), Srt seq l ↔ ∀ i, i + 1 < l.length → lead seq (l.getD (i + 1) R0) (l.getD i R0) = false
  | [] => ⟨fun _ i h => absurd h (by simp), fun _ => trivial⟩
  | [a] => ⟨fun _ i h => absurd h (by simp), fun _ => trivial⟩
  | a :: b :: l => by
    have ih := srt_iff (b :: l)
    constructor
    · rintro ⟨h1, h2⟩ i hi
      cases i with
      | zero => exact h1
      | succ i => exact ih.1 h2 i (by simpa using hi)
    · intro h
      exact ⟨h 0 (by simp), ih.2 fun i hi => h (i + 1) (by simpa using hi)⟩
end
section
variable (seq : Bool)
theorem Srt.take {l : List R} (h : Srt seq l) (k : Nat) : Srt seq (l.take k) := by
  rw [srt_iff] at h ⊢
  intro i hi
  have hi' : i + 1 < k ∧ i + 1 < l.length := by rw [List.length_take] at hi; omega
  have := h i hi'.2
  simp only [List.getD_eq_getElem?_getD, List.getElem?_take] at this ⊢
  rw [if_pos hi'.1, if_pos (by omega)]
  exact this
theorem Srt.drop : ∀ (k : Nat) {l : List R}, Srt seq l → Srt seq (l.drop k)
  | 0, _, h => h
  | _ + 1, [], _ => trivial
  | k + 1, _ :: l, h => Srt.drop k (l := l) h.tail
theorem Srt.two {l : List R} (h : Srt seq l) {i j : Nat} (hij : i ≤ j) (hj : j < l.length) : lead seq (l.getD j R0) (l.getD i R0) = false := by
  rw [srt_iff] at h
  obtain ⟨k, rfl⟩ : ∃ k, j = i + k := ⟨j - i, by omega⟩
  clear hij
  induction k with
  | zero => exact lead_irr seq _
  | succ k ih => exact lead_neg seq (h (i + k) (by omega)) (ih (by omega))
end
end Go.Proofs.YtipmfficjomcoaaDoor.Mg
namespace Go.Proofs.YtipmfficjomcoaaDoor.Sl
open Go.RowKit Go.Shelf Mem Held
section
variable {α : Type} {k : St α} {P : Program} {ops : Array Oper} {o : Oper} {a : Act} {w : World} {Q : Exit → Act → World → Prop}
end
end Go.Proofs.YtipmfficjomcoaaDoor.Sl
namespace Go.Proofs.YtipmfficjomcoaaDoor.Mg
open Go.RowKit Go.Shelf Go.Proofs.YtipmfficjomcoaaDoor Mem Held Ct Rc Rs Sl
attribute [local irreducible] wpList wpListIn Calls
end Go.Proofs.YtipmfficjomcoaaDoor.Mg
namespace Go.Proofs.YtipmfficjomcoaaDoor.Sl
open Go.RowKit Go.Shelf Mem Held
section
variable {α : Type} {k : St α}
end
section
variable {α : Type} {k : St α} {P : Program} {ops : Array Oper} {rest : List Oper} {o : Oper} {a : Act} {w : World} {Q : Exit → Act → World → Prop}
end
end Go.Proofs.YtipmfficjomcoaaDoor.Sl
namespace Go.Proofs.YtipmfficjomcoaaDoor.Mg
open Go.RowKit Go.Shelf Go.Proofs.YtipmfficjomcoaaDoor Mem Held Ct Rc Rs Sl
attribute [local irreducible] wpList wpListIn Calls
section
variable {P : Program} {S : World → Prop} {ρ : Operand → Value} {o : Oper}
theorem run_append_zero (ts e : TypeId) (hu : P.underlying ts = some (.slice e)) (ie : TypeInfo) (hie : P.info? e = some ie) {ty : TypeId} (w : World) (As A : Option Addr) (n cap c : Nat) (hn : n ≤ cap) :
    (Builtin.append_ #[ts, ts] ty #[.slice As n cap, .slice A 0 c]).run P w = .ok (.slice As n cap) w := by
  cases A with
  | none => cases As <;> simp [Builtin.append_, run_underlying hu, sizeOf, typeInfo, hie, Builtin.lenOf, Builtin.firstCells, hn, storeCells]
  | some ad => cases As <;> simp [Builtin.append_, run_underlying hu, sizeOf, typeInfo, hie, Builtin.lenOf, Builtin.firstCells, hn, storeCells, loadCells, loadCellsFrom]
end
section
variable {α : Type} {k : St α} {P : Program} {ops : Array Oper} {rest : List Oper} {o : Oper} {a : Act} {w : World} {Q : Exit → Act → World → Prop}
theorem wpList_append_all (hgd : o.guard = none) (s x : Operand) (ts e : TypeId) (ho : o.op = .call { callee := .builtin .append, args := #[s, x], argTypes := #[ts, ts] }) (hu : P.underlying ts = some (.slice e)) (z : Value) (bytes : Nat) (hinfo : (P.info? e).map (fun i => (i.zero, i.size, i.bytes)) = some (some z, k.s, bytes)) (hz : z.cells.size = k.s)
    (base B m c : Nat) (A : Option Addr) (v : Value) (xs ys : List α) (hs : a.eval s = v) (hx : a.eval x = .slice A m c) (hown : OwnL k e w base v xs) (hq : Lst k w B A m ys) (hm : xs.length + m ≤ 1048576) (hby : bytes ≤ 1048576) (hbase : base ≤ w.heap.size)
    (h : ∀ v' w', OwnL k e w' base v' (xs ++ ys) → w.grownBy w' v.ownBlock → (v'.ownBlock = v.ownBlock ∨ v'.ownBlock = some w.heap.size) → wpList P ops Q rest (a.put o.dst v') w') : wpList P ops Q (o :: rest) a w := by
  rcases Nat.eq_zero_or_pos m with h0 | h0
  · subst h0
    have e0 : ys = [] := List.eq_nil_of_length_eq_zero hq.1
    subst e0
    obtain ⟨A', c', rfl, hle, _⟩ := OwnL.form hown
    obtain ⟨ie, hie, _⟩ := info_parts hinfo
    exact Rs.wpList_append_ran hgd s x ts ts ho _ _ _ w hs hx (run_append_zero ts e hu ie hie w A' A _ c' c hle) (h _ w (by rw [List.append_nil]; exact hown) (World.grownBy.refl w _) (.inl rfl))
  · obtain ⟨g, off, rfl, _, _⟩ := hq.2.2 h0
    exact wpList_append_lst hgd s x ts e ho hu z bytes hinfo hz base B g off m c v xs ys hs hx hown hq hm hby hbase h
end
end Go.Proofs.YtipmfficjomcoaaDoor.Mg
namespace Go.Proofs.YtipmfficjomcoaaDoor.Sh
open Go.RowKit Go.Shelf Mem Held Go.Proofs.YtipmfficjomcoaaDoor.Range Sl
attribute [local go_sem] Oper.semAt_some
attribute [local irreducible] wpList wpListIn Calls
section
variable {P : Program} {ops : Array Oper} {Q : Exit → Act → World → Prop} {md : Region.Mode} {T : World → Prop} {s : Nat}
theorem oneB_v (i : Nat) (d : Option Tmp) {o : Oper} {v : Value} {fuel : Nat} {listed : Array Bool} {a : Act} {w : World} (hr : Region.ready md ops listed = [i]) (hi : ops[i]? = some o) (hd : o.dst = d) (hw : Region.wanted o (yielded ops a.tmps) = true) (hy : ∀ w, True → (execOp a.eval o).run P w = .ok (.value v) w) (hs : (listed.setIfInBounds i true).getD s true = true)
    (h : Held.wpAnyB P md ops Q T s fuel (listed.setIfInBounds i true) (a.put d v) w) : Held.wpAnyB P md ops Q T s (fuel + 1) listed a w := by
  subst hd
  exact Held.oneB i hr (YieldsIf.wpOp (S := fun _ => True) hi (.inl ⟨hw, hy⟩) trivial ⟨(fun h => by rw [hs] at h; cases h), h⟩)
end
section
variable {α : Type} {k : St α} {P : Program} {ops : Array Oper} {o : Oper} {a : Act} {w : World} {Q : Exit → Act → World → Prop}
theorem run_append_lst0 (w : World) (ts ty e : TypeId) (hu : P.underlying ts = some (.slice e)) (z : Value) (bytes : Nat) (hinfo : (P.info? e).map (fun i => (i.zero, i.size, i.bytes)) = some (some z, k.s, bytes)) (hz : z.cells.size = k.s)
    (base B m c : Nat) (A : Option Addr) (v : Value) (xs ys : List α) (hown : OwnL k e w base v xs) (hq : Lst k w B A m ys) (hm : xs.length + m ≤ 1048576) (hby : bytes ≤ 1048576) (hbase : base ≤ w.heap.size) :
    ∃ v' w', (Builtin.append_ #[ts, ts] ty #[v, .slice A m c]).run P w = .ok v' w' ∧ OwnL k e w' base v' (xs ++ ys) ∧ w.grownBy w' v.ownBlock ∧ (v'.ownBlock = v.ownBlock ∨ v'.ownBlock = some w.heap.size) := by
  obtain ⟨ie, hie, hz0, hsz, hb⟩ := info_parts hinfo
  rcases Nat.eq_zero_or_pos m with h0 | h0
  · subst h0
    have e0 : ys = [] := List.eq_nil_of_length_eq_zero hq.1
    subst e0
    obtain ⟨A', c', rfl, hle, _⟩ := OwnL.form hown
    exact ⟨_, w, Mg.run_append_zero ts e hu ie hie w A' A _ c' c hle, by rw [List.append_nil]; exact hown, World.grownBy.refl w _, .inl rfl⟩
  · obtain ⟨g, off, rfl, _, hc⟩ := hq.2.2 h0
    obtain ⟨v', w', h1, h2, h3, _, h5⟩ := run_append_own_at (P := P) w base ts ty e ie z k.s bytes hu hie hz0 hsz hb hz k.pos v xs.length (flat k xs) hown ⟨g, off, none⟩ m c (flat k ys) (by rw [Sl.flat_length, hq.1])
      (fun j u hj => by rw [show (Addr.mk g off none).add j = ⟨g, off + j, none⟩ by (unfold Addr.add; split <;> simp_all)]; exact hc j u hj) (flat_cell ys) (by unfold maxLen; omega) (Nat.le_trans (Nat.mul_le_mul hm hby) (by omega)) hbase
    refine ⟨v', w', h1, ?_, h3, h5⟩
    unfold OwnL
    rw [Sl.flat_append, List.length_append, hq.1]
    exact h2
theorem op_append_lst0 (i : Nat) (d : Option Tmp) {K : Act → World → Prop} {s x : Operand} (ts e : TypeId) (hi : ops[i]? = some o) (hd : o.dst = d) (hw : Region.wanted o (yielded ops a.tmps) = true)
    (ho : o.op = .call { callee := .builtin .append, args := #[s, x], argTypes := #[ts, ts] }) (hu : P.underlying ts = some (.slice e)) (z : Value) (bytes : Nat) (hinfo : (P.info? e).map (fun i => (i.zero, i.size, i.bytes)) = some (some z, k.s, bytes)) (hz : z.cells.size = k.s)
    (base B m c : Nat) (A : Option Addr) (v : Value) (xs ys : List α) (hs : a.eval s = v) (hx : a.eval x = .slice A m c) (hown : OwnL k e w base v xs) (hq : Lst k w B A m ys) (hm : xs.length + m ≤ 1048576) (hby : bytes ≤ 1048576) (hbase : base ≤ w.heap.size)
    (h : ∀ v' w', OwnL k e w' base v' (xs ++ ys) → w.grownBy w' v.ownBlock → (v'.ownBlock = v.ownBlock ∨ v'.ownBlock = some w.heap.size) → K (a.put d v') w') : wpOp P ops Q i K a w := by
  subst hd
  obtain ⟨v', w', h1, h2, h3, h4⟩ := run_append_lst0 (P := P) w ts o.type e hu z bytes hinfo hz base B m c A v xs ys hown hq hm hby hbase
  refine Held.op_wp i hi hw ?_
  exact Lib.wp_append_run w s x ts ts ho _ _ hs hx _ w' h1 (h v' w' h2 h3 h4)
end
theorem info_task : (Tryd.prog.info? 34).map (fun i => (i.zero, i.size, i.bytes)) = some (some (.agg #[.int .i64 0, .int .i64 0, .int .i64 0, .int .i64 0, .bool false]), kT.s, 40) := by kernel_rfl
theorem own_nt {w : World} {B B' : Nat} {v v' : Value} {xs : List Tk} {zs : List Int} (h : OwnL kT 34 w B v xs) (k : Mem.Own w B' 3 .i64 v' zs) : v'.ownBlock = none ∨ v'.ownBlock ≠ v.ownBlock := by
  cases hq : v'.ownBlock with
  | none => exact .inl rfl
  | some b =>
    refine .inr fun e => ?_
    obtain ⟨cs, fz, h2⟩ := Bi.own_obj k hq
    rcases h.2 with ⟨rfl, _⟩ | ⟨g, cap, cur, rfl, hb, hg, _⟩
    · cases e
    · have e : some b = some g := e
      injection e with e
      subst e
      rw [h2] at hg
      injection hg with hg
      injection hg with _ hg
      exact absurd hg (by decide)
theorem sortsT_succ (kd : Int) (M r : Nat) : sortsT kd M (r + 1) = sortsT kd M r ++ roundT kd M r := by simp [sortsT, List.range_succ]
theorem sorts_len {K : Int} {I mp M T : Nat} (h : JobP K I mp M T) (kd : Int) : ∀ r, r ≤ T → (sortsT kd M r).length = r * (M / 2)
  | 0, _ => by simp [sortsT]
  | r + 1, hr => by
    rw [sortsT_succ, List.length_append, sorts_len h kd r (by omega)]
    simp only [roundT, List.length_map]
    rw [h.half (by omega), Nat.add_mul, Nat.one_mul]
set_option maxRecDepth 100000 in
set_option maxHeartbeats 16000000 in
theorem rsorts_any (kd : Int) (hkd : kd = 3 ∨ kd = 5) (K : Int) (I mp M T : Nat) (h : JobP K I mp M T) (w : World) :
    Calls Tryd.prog 36 #[.int .i64 kd, .int .i64 (M : Int)] w fun e w' => ∃ A n c, e = .returned (.slice A n c) ∧ Hid ((sortsT kd M T).length = n) ∧ OwnL kT 34 w' w.heap.size (.slice A n c) (sortsT kd M T) ∧ Below w.heap.size w w' := by
  have hM32 := h.m32
  have hT15 := h.t15
  have HRN := Lib.hid (fun (W : World) => Bi.rrounds_any (M : Int) W (by omega) (by omega))
  rw [h.T] at HRN
  have HRD := Lib.hid (fun (k : Nat) (hk : k < T) (W : World) => Bi.rround_own (M : Int) (k : Int) _ _ true W (by omega) (by omega) (h.round hk))
  have HUP := Lib.hid (fun (k : Nat) (hk : k < T) (x : Nat) (hx : x < M) (W : World) => Bi.rup_any (M : Int) (k : Int) (x : Int) _ _ true W (by omega) (by omega) (by omega) (by omega) (h.round hk))
  have HWF := Lib.hid (fun t (ht : t ∈ sortsT kd M T) => (sorts_b h hkd ht).wf)
  have HSL := Lib.hid (fun r (hr : r ≤ T) => sorts_len h kd r hr)
  have HHF := Lib.hid (fun r (hr : r < T) => h.half hr)
  have HTW := Lib.hid (fun r (hr : r < T) => show (2 : Int) ^ ((stT r).2 - 1) ≤ 65536 ∧ 1 ≤ (2 : Int) ^ ((stT r).2 - 1) from ⟨Bi.two_16 (by have := (h.round hr).is rfl; omega), Bi.two_pos _⟩)
  have HM32 := Lib.hid hM32
  have HT15 := Lib.hid hT15
  clear h hkd
  go_enter Tryd.func36, Tryd.ntmps36
  go_wp2_with fail
  go_loopw [5, 6] (fun v i wr => ∃ k : Nat, k ≤ T ∧ i = .int .i64 k ∧ OwnL kT 34 wr w.heap.size v (sortsT kd M k) ∧ Below w.heap.size w wr) (fun _ i _ => T - (intOf i).toNat)
  case atStart => exact ⟨0, by omega, rfl, OwnL.nil _ _ _ _, Below.refl _ _⟩
  case round =>
    obtain ⟨k, hk, rfl, hl, bw⟩ := hrel
    go_wp2_with fail
    refine (HRN.out wr).mono ?_
    rintro e w1 ⟨rfl, rfl⟩
    by_cases hkT : k < T
    · have hkT' : (k : Int) < (T : Int) := by omega
      have HK1 := Lib.hid (show IntKind.i64.wrap ((k : Int) + 1) = (k : Int) + 1 by rw [IntKind.wrap_i64]; omega)
      obtain ⟨fs, hfs⟩ : ∃ fs, Net.firsts (2 ^ ((stT k).2 - 1)) M = fs := ⟨_, rfl⟩
      have hRD := HRD.out k hkT wr
      have hpo : Bi.pairsOf (M : Int) (stT k).2 true = fs := by unfold Bi.pairsOf; rw [if_pos rfl, Int.toNat_natCast]; exact hfs
      rw [hpo] at hRD
      simp only [if_true] at hRD
      have HRT := Lib.hid (show sortsT kd M (k + 1) = sortsT kd M k ++ fs.map (pairT kd M k) by rw [sortsT_succ, roundT, hfs])
      have HFM := Lib.hid (fun x (hx : x ∈ fs) => show x < M by
        rw [← hfs] at hx
        unfold Net.firsts at hx
        have := (List.mem_filter.1 hx).1
        simpa using this)
      have hfl : fs.length ≤ 32 := by rw [← hfs]; have := Bi.firsts_length_le (2 ^ ((stT k).2 - 1)) M; omega
      obtain ⟨dd, hdd⟩ : ∃ dd : Int, (2 : Int) ^ ((stT k).2 - 1) = dd := ⟨_, rfl⟩
      have hd2 := HTW.out k hkT
      rw [hdd] at hRD hd2
      have HDD := Lib.hid hdd
      have HFL := Lib.hid hfl
      clear hpo hfs hdd hfl
      go_wp2_with fail
      refine hRD.mono ?_
      rintro e w2 ⟨Af, cf, rfl, hof, b2⟩
      have hl2 := hl.below b2
      have bw2 := bw.trans (b2.mono bw.size)
      have hof := hof.less bw.size
      obtain ⟨hf, hhf⟩ : ∃ hf, fs.length = hf := ⟨_, rfl⟩
      have HHL := Lib.hid hhf
      rw [hhf] at hof ⊢
      clear hl bw b2 hhf hRD
      go_wp2_with fail
      go_loopw [5, 9] (fun v j wi => ∃ i : Nat, i ≤ hf ∧ j = .int .i64 i ∧ OwnL kT 34 wi w.heap.size v (sortsT kd M k ++ (fs.take i).map (pairT kd M k)) ∧ Mem.Own wi w.heap.size 3 .i64 (.slice Af hf cf) (Bi.xsOf fs) ∧ Below w.heap.size w wi) (fun _ j _ => hf - (intOf j).toNat)
      case atStart => exact ⟨0, by omega, rfl, by simpa using hl2, hof, bw2⟩
      case round =>
        clear hl2 hof bw2
        obtain ⟨i, hi, rfl, hl, hof, bw⟩ := hrel
        obtain ⟨A2, n2, c2, rfl, hn2, _, _⟩ := hl.form2
        have HN2 := hn2
        have hwz := bw.size
        by_cases hlt : i < hf
        · have hlt' : (i : Int) < (hf : Int) := by omega
          have hi0 : (0 : Int) ≤ (i : Int) := by omega
          have hif : i < fs.length := by have := HHL.out; omega
          obtain ⟨x, hx⟩ : ∃ x, fs.getD i 0 = x := ⟨_, rfl⟩
          have hxx : (Bi.xsOf fs).getD i 0 = (x : Int) := by
            rw [← hx]
            unfold Bi.xsOf
            rw [List.getD_eq_getElem?_getD, List.getElem?_map, List.getD_eq_getElem?_getD, List.getElem?_eq_getElem hif]
            rfl
          obtain ⟨bf, off, rfl, hbf, hcx⟩ := (hof.ints (by have := HHL.out; simp [Bi.xsOf]; omega)).at_ hlt
          rw [hxx] at hcx
          have hxM : x < M := HFM.out x (by rw [← hx, List.getD_eq_getElem?_getD, List.getElem?_eq_getElem hif]; exact List.getElem_mem _)
          have hcell : ∀ W, Below wr.heap.size wr W → W.cell? ⟨bf, off + i, none⟩ = some (.int .i64 (x : Int)) := fun W hW => (hW.cell (p := ⟨bf, off + i, none⟩) hbf).trans hcx
          have hu := HUP.out k hkT x hxM
          obtain ⟨UV, hUV⟩ : ∃ UV, Bi.upV (M : Int) (stT k).1 (stT k).2 true (x : Int) = UV := ⟨_, rfl⟩
          rw [hUV] at hu
          have HUP := Lib.hid (fun W => hu W)
          have HP := Lib.hid (show pairT kd M k x = ⟨kd, (k : Int) + 1, (x : Int), (x : Int) + dd, UV⟩ by unfold pairT; rw [HDD.out, hUV])
          have HTS := Lib.hid (show (fs.take (i + 1)).map (pairT kd M k) = (fs.take i).map (pairT kd M k) ++ [pairT kd M k x] by
            rw [List.take_add_one, List.getElem?_eq_getElem hif, List.map_append, ← hx, List.getD_eq_getElem?_getD, List.getElem?_eq_getElem hif]
            rfl)
          rw [HP.out] at HTS
          have wf1 : ∀ t ∈ [(⟨kd, (k : Int) + 1, (x : Int), (x : Int) + dd, UV⟩ : Tk)], t.wf := fun t ht => by
            rw [List.mem_singleton] at ht
            subst ht
            rw [← HP.out]
            refine HWF.out _ ?_
            unfold sortsT
            refine List.mem_flatMap.2 ⟨k, List.mem_range.2 hkT, ?_⟩
            have hm : x ∈ fs := by rw [← hx, List.getD_eq_getElem?_getD, List.getElem?_eq_getElem hif]; exact List.getElem_mem _
            have hh : roundT kd M k = fs.map (pairT kd M k) := by
              have := HRT.out
              rw [sortsT_succ] at this
              exact List.append_cancel_left this
            rw [hh]
            exact List.mem_map.2 ⟨x, hm, rfl⟩
          have HXD := Lib.hid (show IntKind.i64.wrap ((x : Int) + dd) = (x : Int) + dd by rw [IntKind.wrap_i64]; omega)
          have hf32 := HFL.out
          have hadd : IntKind.i64.wrap ((i : Int) + 1) = (i : Int) + 1 := by rw [IntKind.wrap_i64]; omega
          have hn100 : n2 ≤ 1000 := by
            have h1 := HSL.out k hk
            have h2 := HN2.out
            have h3 : k * (M / 2) ≤ 15 * 16 := Nat.mul_le_mul (by have := HT15.out; omega) (by have := HM32.out; omega)
            rw [List.length_append, List.length_map, List.length_take, h1] at h2
            have := HFL.out
            omega
          clear hx hxx hu hUV hcx hn2
          go_wp2_with fail
          refine wp_region_bar (T := fun W => Below wr.heap.size wr W) (s := 23) (by kernel_rfl) ?_
          change wpAnyB _ _ _ _ _ _ _ _ _ wr.drew
          have T0 : Below wr.heap.size wr wr.drew := (Below.refl wr.heap.size wr).drew
          refine Held.takeB (v := .slice A2 n2 c2) 0 (some 28) [23] rfl rfl (by kernel_rfl) (by kernel_rfl) (by kernel_rfl) (by kernel_rfl) (fun _ _ _ h => h) rfl (Held.y_move rfl rfl) T0 ?_
          simp only [Act.put, Z1, Z2, Z3]
          refine Held.takeB (v := .int .i64 kd) 1 (some 29) [21, 22, 23] rfl rfl (by kernel_rfl) (by kernel_rfl) (by kernel_rfl) (by kernel_rfl) (fun _ _ _ h => h) rfl (Held.y_move rfl rfl) T0 ?_
          simp only [Act.put, Z1, Z2, Z3]
          refine Held.takeB (v := .int .i64 (k : Int)) 2 (some 30) [3, 21, 22, 23] rfl rfl (by kernel_rfl) (by kernel_rfl) (by kernel_rfl) (by kernel_rfl) (fun _ _ _ h => h) rfl (Held.y_move rfl rfl) T0 ?_
          simp only [Act.put, Z1, Z2, Z3]
          refine Held.takeB (v := .int .i64 (((k : Int) + 1))) 3 (some 31) [21, 22, 23] rfl rfl (by kernel_rfl) (by kernel_rfl) (by kernel_rfl) (by kernel_rfl) (fun _ _ _ h => h) rfl (Held.y_int rfl rfl rfl (Held.run_add 3 .i64 (HK1.out))) T0 ?_
          simp only [Act.put, Z1, Z2, Z3]
          refine Held.takeB (v := .slice (some ⟨bf, off, none⟩) hf cf) 4 (some 32) [6, 7, 21, 22, 23] rfl rfl (by kernel_rfl) (by kernel_rfl) (by kernel_rfl) (by kernel_rfl) (fun _ _ _ h => h) rfl (Held.y_move rfl rfl) T0 ?_
          simp only [Act.put, Z1, Z2, Z3]
          refine Held.takeB (v := .int .i64 (i : Int)) 5 (some 33) [6, 7, 21, 22, 23] rfl rfl (by kernel_rfl) (by kernel_rfl) (by kernel_rfl) (by kernel_rfl) (fun _ _ _ h => h) rfl (Held.y_move rfl rfl) T0 ?_
          simp only [Act.put, Z1, Z2, Z3]
          refine Held.takeB (v := .pointer (some ⟨bf, off + i, none⟩)) 6 (some 34) [7, 21, 22, 23] rfl rfl (by kernel_rfl) (by kernel_rfl) (by kernel_rfl) (by kernel_rfl) (fun _ _ _ h => h) rfl (Held.y_addr rfl rfl rfl (fun W => run_addr_slice 30 3 bf off hf cf i .i64 Tryd.underlying30 (by kernel_rfl) hlt W)) T0 ?_
          simp only [Act.put, Z1, Z2, Z3]
          refine Held.takeB (v := .int .i64 (x : Int)) 7 (some 35) [21, 22, 23] rfl rfl (by kernel_rfl) (by kernel_rfl) (by kernel_rfl) (by kernel_rfl) (fun _ _ _ h => h) rfl (Held.y_load rfl rfl (by kernel_rfl) (fun W hW => hcell W hW)) T0 ?_
          simp only [Act.put, Z1, Z2, Z3]
          refine Held.takeB (v := .slice (some ⟨bf, off, none⟩) hf cf) 8 (some 36) [10, 11, 13, 21, 22, 23] rfl rfl (by kernel_rfl) (by kernel_rfl) (by kernel_rfl) (by kernel_rfl) (fun _ _ _ h => h) rfl (Held.y_move rfl rfl) T0 ?_
          simp only [Act.put, Z1, Z2, Z3]
          refine Held.takeB (v := .int .i64 (i : Int)) 9 (some 37) [10, 11, 13, 21, 22, 23] rfl rfl (by kernel_rfl) (by kernel_rfl) (by kernel_rfl) (by kernel_rfl) (fun _ _ _ h => h) rfl (Held.y_move rfl rfl) T0 ?_
          simp only [Act.put, Z1, Z2, Z3]
          refine Held.takeB (v := .pointer (some ⟨bf, off + i, none⟩)) 10 (some 38) [11, 13, 21, 22, 23] rfl rfl (by kernel_rfl) (by kernel_rfl) (by kernel_rfl) (by kernel_rfl) (fun _ _ _ h => h) rfl (Held.y_addr rfl rfl rfl (fun W => run_addr_slice 30 3 bf off hf cf i .i64 Tryd.underlying30 (by kernel_rfl) hlt W)) T0 ?_
          simp only [Act.put, Z1, Z2, Z3]
          refine Held.takeB (v := .int .i64 (x : Int)) 11 (some 39) [13, 21, 22, 23] rfl rfl (by kernel_rfl) (by kernel_rfl) (by kernel_rfl) (by kernel_rfl) (fun _ _ _ h => h) rfl (Held.y_load rfl rfl (by kernel_rfl) (fun W hW => hcell W hW)) T0 ?_
          simp only [Act.put, Z1, Z2, Z3]
          refine Held.takeB (v := .int .i64 dd) 12 (some 40) [13, 21, 22, 23] rfl rfl (by kernel_rfl) (by kernel_rfl) (by kernel_rfl) (by kernel_rfl) (fun _ _ _ h => h) rfl (Held.y_move rfl rfl) T0 ?_
          simp only [Act.put, Z1, Z2, Z3]
          refine Held.takeB (v := .int .i64 (((x : Int) + dd))) 13 (some 41) [21, 22, 23] rfl rfl (by kernel_rfl) (by kernel_rfl) (by kernel_rfl) (by kernel_rfl) (fun _ _ _ h => h) rfl (Held.y_int rfl rfl rfl (Held.run_add 3 .i64 (HXD.out))) T0 ?_
          simp only [Act.put, Z1, Z2, Z3]
          refine Held.takeB (v := .int .i64 (M : Int)) 14 (some 42) [20, 23] rfl rfl (by kernel_rfl) (by kernel_rfl) (by kernel_rfl) (by kernel_rfl) (fun _ _ _ h => h) rfl (Held.y_move rfl rfl) T0 ?_
          simp only [Act.put, Z1, Z2, Z3]
          refine Held.takeB (v := .int .i64 (k : Int)) 15 (some 43) [20, 23] rfl rfl (by kernel_rfl) (by kernel_rfl) (by kernel_rfl) (by kernel_rfl) (fun _ _ _ h => h) rfl (Held.y_move rfl rfl) T0 ?_
          simp only [Act.put, Z1, Z2, Z3]
          refine Held.takeB (v := .slice (some ⟨bf, off, none⟩) hf cf) 16 (some 44) [18, 19, 20, 23] rfl rfl (by kernel_rfl) (by kernel_rfl) (by kernel_rfl) (by kernel_rfl) (fun _ _ _ h => h) rfl (Held.y_move rfl rfl) T0 ?_
          simp only [Act.put, Z1, Z2, Z3]
          refine Held.takeB (v := .int .i64 (i : Int)) 17 (some 45) [18, 19, 20, 23] rfl rfl (by kernel_rfl) (by kernel_rfl) (by kernel_rfl) (by kernel_rfl) (fun _ _ _ h => h) rfl (Held.y_move rfl rfl) T0 ?_
          simp only [Act.put, Z1, Z2, Z3]
          refine Held.takeB (v := .pointer (some ⟨bf, off + i, none⟩)) 18 (some 46) [19, 20, 23] rfl rfl (by kernel_rfl) (by kernel_rfl) (by kernel_rfl) (by kernel_rfl) (fun _ _ _ h => h) rfl (Held.y_addr rfl rfl rfl (fun W => run_addr_slice 30 3 bf off hf cf i .i64 Tryd.underlying30 (by kernel_rfl) hlt W)) T0 ?_
          simp only [Act.put, Z1, Z2, Z3]
          refine Held.takeB (v := .int .i64 (x : Int)) 19 (some 47) [20, 23] rfl rfl (by kernel_rfl) (by kernel_rfl) (by kernel_rfl) (by kernel_rfl) (fun _ _ _ h => h) rfl (Held.y_load rfl rfl (by kernel_rfl) (fun W hW => hcell W hW)) T0 ?_
          simp only [Act.put, Z1, Z2, Z3]
          refine Held.oneB 20 (by kernel_rfl) ?_
          refine Held.op_call 20 (some 48) 60 #[.int .i64 (M : Int), .int .i64 (k : Int), .int .i64 (x : Int)] rfl rfl rfl rfl (enters_of Tryd.func60 (by kernel_rfl) rfl) (by simp [Act.eval]) (HUP.out wr.drew) ?_
          rintro e w1 ⟨rfl, rfl⟩
          refine ⟨_, rfl, fun _ => T0, ?_⟩
          simp only [Act.put, Z1, Z2, Z3]
          refine Held.takeB (v := .agg #[.int .i64 kd, .int .i64 (((k : Int) + 1)), .int .i64 (x : Int), .int .i64 (((x : Int) + dd)), .bool UV]) 21 (some 49) [22, 23] rfl rfl (by kernel_rfl) (by kernel_rfl) (by kernel_rfl) (by kernel_rfl) (fun _ _ _ h => h) rfl (Held.y_build rfl (by kernel_rfl)) T0 ?_
          simp only [Act.put, Z1, Z2, Z3]
          refine Held.oneB 22 (by kernel_rfl) ?_
          refine op_build_lst (k := kT) 22 (some 50) 28 34 1 _ 40 [⟨kd, (k : Int) + 1, (x : Int), (x : Int) + dd, UV⟩] rfl rfl rfl rfl Tryd.underlying28 info_task rfl rfl (by simp [Act.eval, kT, Tk.cells]) (by omega) (by decide) ?_
          intro gl w2 ql b2 hgl
          have T0 : Below wr.heap.size wr w2 := T0.trans (b2.mono T0.size)
          refine ⟨fun _ => T0, ?_⟩
          simp only [Act.put, Z1, Z2, Z3]
          refine Held.oneB 23 (by kernel_rfl) ?_
          refine op_append_lst0 (k := kT) 23 (some 51) 28 34 rfl rfl rfl rfl Tryd.underlying28 _ 40 info_task rfl w.heap.size w2.heap.size 1 1 (some ⟨gl, 0, none⟩) (.slice A2 n2 c2) _ [⟨kd, (k : Int) + 1, (x : Int), (x : Int) + dd, UV⟩] rfl rfl (hl.below T0) (lst_whole ql rfl wf1) (by rw [HN2.out]; omega) (by omega) (by have := T0.size; omega) ?_
          intro v6 w3 o6 g6 n6
          refine ⟨(fun h => by cases h.symm.trans (show _ = true by kernel_rfl)), ?_⟩
          simp only [Act.put, Z1, Z2, Z3]
          refine Sh.oneB_v 24 (some 5) (v := v6) (by kernel_rfl) rfl rfl rfl (Held.y_assign rfl rfl) (by kernel_rfl) ?_
          simp only [Act.put, Z1, Z2, Z3]
          refine Held.doneB (by kernel_rfl) ?_ _
          obtain ⟨A6, n6', c6, rfl, _⟩ := o6.form2
          have hof2 := hof.below T0
          go_wp2_with fail
          go_roundw
          case rel => exact ⟨i + 1, by omega, by go_num, by rw [HTS.out, ← List.append_assoc]; exact o6, hof2.kept g6 (own_nt (hl.below T0) hof2), (bw.trans (T0.mono hwz)).grown g6 (by have := T0.size; omega) (fun r e => (hl.lt r e).1)⟩
          case measure => simp [intOf]; omega
        · obtain rfl : i = hf := by omega
          have HLE := Lib.hid (show fs.take i = fs from List.take_of_length_le (by have := HHL.out; omega))
          rw [HLE.out, ← HRT.out] at hl
          have hadd : IntKind.i64.wrap ((k : Int) + 1) = (k : Int) + 1 := HK1.out
          go_wp2_with fail
          go_roundw
          case rel => exact ⟨k + 1, by omega, by go_num, hl, bw⟩
          case measure => simp [intOf]; omega
    · obtain rfl : k = T := by omega
      obtain ⟨A2, n2, c2, rfl, hn2, _, _⟩ := hl.form2
      go_wp2_with fail
      go_ret
      exact ⟨_, _, _, rfl, hn2, hl, bw⟩
end Go.Proofs.YtipmfficjomcoaaDoor.Sh
namespace Go.Proofs.YtipmfficjomcoaaDoor.Sh
open Go.RowKit Go.Shelf Mem Held Go.Proofs.YtipmfficjomcoaaDoor.Range Sl
attribute [local go_sem] Oper.semAt_some
attribute [local irreducible] wpList wpListIn Calls
set_option maxRecDepth 100000 in
set_option maxHeartbeats 4000000 in
theorem rbehind_any (f p r a : Int) (w : World) :
    Calls Tryd.prog 43 #[.int .i64 f, .int .i64 p, .int .i64 r, .int .i64 a] w fun e w' => e = .returned (spV (behP f p r a)) ∧ Below w.heap.size w w' := by
  by_cases h : r = 0
  · subst h
    have HE := Lib.hid (show behP f p 0 a = ⟨f, 0, a⟩ by unfold behP; rw [if_pos rfl])
    go_enter Tryd.func43, Tryd.ntmps43
    go_wp2_with (first
      | (refine wpList_alloc_blk (w := w) rfl 42 rfl #[.int .i64 0, .int .i64 0, .int .i64 0] (by kernel_rfl) ?_; intro u1 qu1 gu1 zu1)
      | (refine wpList_build_blk rfl 42 #[_, _] rfl #[.int .i64 f, .int .i64 0, .int .i64 a] (by kernel_rfl) ?_)
      | (refine wpList_store_blk (w := u1) rfl 42 _ _ rfl (w.heap.size) 3 rfl 42 _ #[.int .i64 f, .int .i64 0, .int .i64 a] rfl qu1 (by kernel_rfl) rfl rfl (by kernel_rfl) ?_; intro u2 qu2 gu2 zu2; have b2 : Below w.heap.size w u2 := ((Below.refl _ w).grown gu1 (Nat.le_refl _) (by simp)).grown gu2 gu1.size (fun r e => by cases e; exact Nat.le_refl _)))
    exact bodyPost_ret (results_blk rfl _ _ w.heap.size 3 _ _ rfl qu2 _ Tryd.underlying42 rfl (by kernel_rfl) rfl) rfl ⟨by rw [HE.out]; rfl, b2⟩
  · have HE := Lib.hid (show behP f p r a = ⟨p, r, a⟩ by unfold behP; rw [if_neg h])
    go_enter Tryd.func43, Tryd.ntmps43
    go_wp2_with (first
      | (refine wpList_alloc_blk (w := w) rfl 42 rfl #[.int .i64 0, .int .i64 0, .int .i64 0] (by kernel_rfl) ?_; intro u1 qu1 gu1 zu1)
      | (refine wpList_build_blk rfl 42 #[_, _, _] rfl #[.int .i64 p, .int .i64 r, .int .i64 a] (by kernel_rfl) ?_)
      | (refine wpList_store_blk (w := u1) rfl 42 _ _ rfl (w.heap.size) 3 rfl 42 _ #[.int .i64 p, .int .i64 r, .int .i64 a] rfl qu1 (by kernel_rfl) rfl rfl (by kernel_rfl) ?_; intro u2 qu2 gu2 zu2; have b2 : Below w.heap.size w u2 := ((Below.refl _ w).grown gu1 (Nat.le_refl _) (by simp)).grown gu2 gu1.size (fun r e => by cases e; exact Nat.le_refl _)))
    exact bodyPost_ret (results_blk rfl _ _ w.heap.size 3 _ _ rfl qu2 _ Tryd.underlying42 rfl (by kernel_rfl) rfl) rfl ⟨by rw [HE.out]; rfl, b2⟩
set_option maxRecDepth 100000 in
set_option maxHeartbeats 4000000 in
theorem rlast_any (r k b wk : Int) (hk0 : -9223372036854775808 ≤ k) (hk1 : k ≤ 9223372036854775807) (w : World) :
    Calls Tryd.prog 27 #[.agg #[.int .i64 r, .int .i64 k, .int .i64 b, .int .i64 wk]] w fun e w' => ∃ A m c, e = .returned (.slice A m c) ∧ Hid ((lastT (mN r k b wk) (tN r k b wk : Int)).length = m) ∧ OwnL kS 42 w' w.heap.size (.slice A m c) (lastT (mN r k b wk) (tN r k b wk : Int)) ∧ Below w.heap.size w w' := by
  have h := job_of (r := r) (b := b) (wk := wk) hk0 hk1
  have HB := Lib.hid (fun (W : World) => rblocks_any r k b wk W)
  generalize inN r k b wk = I at *
  generalize mpN r k b wk = mp at *
  generalize mN r k b wk = M at *
  generalize tN r k b wk = T at *
  have h32 := h.m32
  have HRN := fun (W : World) => Bi.rrounds_any (M : Int) W (by omega) (by omega)
  rw [h.T] at HRN
  have HRN := Lib.hid HRN
  have HWF := Lib.hid (last_wf (M := M) (show (0 : Int) ≤ (T : Int) by omega) (by have := h.t15; omega) h32)
  have HL := Lib.hid (fun (i : Nat) => show lastT (i + 1) (T : Int) = lastT i (T : Int) ++ [behP 3 5 (T : Int) (i : Int)] by unfold lastT; rw [List.range_succ, List.map_append]; rfl)
  have HLL := Lib.hid (fun (i : Nat) => show (lastT i (T : Int)).length = i by simp [lastT])
  have HIN := Lib.hid (fun (i : Nat) (hi : i < M) => show behP 3 5 (T : Int) (i : Int) ∈ lastT M (T : Int) from List.mem_map.2 ⟨i, List.mem_range.2 hi, rfl⟩)
  clear h
  go_enter Tryd.func27, Tryd.ntmps27
  go_wp2_with (first
    | (refine wpList_box_blk (w := w) rfl 23 _ rfl _ rfl ?_; intro u1 qu1 gu1 zu1; have b1 : Below w.heap.size w u1 := (Below.refl _ w).grown gu1 (Nat.le_refl _) (by simp))
    | (refine wpList_load_blk (w := u1) rfl 23 _ rfl (w.heap.size) 4 rfl 23 _ qu1 _ Tryd.underlying23 rfl (by kernel_rfl) rfl ?_))
  refine (HB.out u1).mono ?_
  rintro e u2 ⟨rfl, b2⟩
  have bo4 := b1.trans (b2.mono b1.size)
  clear b1 b2 gu1 zu1 qu1 HB
  go_wp2_with fail
  go_loopw [5, 6] (fun v i wr => ∃ k' : Nat, k' ≤ M ∧ i = .int .i64 k' ∧ OwnL kS 42 wr w.heap.size v (lastT k' (T : Int)) ∧ Below w.heap.size w wr) (fun _ i _ => M - (intOf i).toNat)
  case atStart => exact ⟨0, by omega, rfl, OwnL.nil _ _ _ _, bo4⟩
  case round =>
    clear bo4
    obtain ⟨m, hm, rfl, hl, bw⟩ := hrel
    obtain ⟨A2, n2, c2, rfl, hn2, _, _⟩ := hl.form2
    have hn2' := hn2.out
    rw [HLL.out] at hn2'
    subst hn2'
    have hwz := bw.size
    by_cases hlt : m < M
    · have hlt' : (m : Int) < (M : Int) := by omega
      have hadd : IntKind.i64.wrap ((m : Int) + 1) = (m : Int) + 1 := by rw [IntKind.wrap_i64]; omega
      go_wp2_with fail
      refine (HRN.out wr).mono ?_
      rintro e w3 ⟨rfl, rfl⟩
      go_wp2_with fail
      refine (rbehind_any 3 5 (T : Int) (m : Int) wr).mono ?_
      rintro e w4 ⟨rfl, b4⟩
      have hl4 := hl.below b4
      have bw4 := bw.trans (b4.mono hwz)
      obtain ⟨s1, hs1⟩ : ∃ s, behP 3 5 (T : Int) (m : Int) = s := ⟨_, rfl⟩
      have wf1 : ∀ s ∈ [s1], s.wf := fun s hs => by rw [List.mem_singleton] at hs; subst hs; rw [← hs1]; exact HWF.out _ (HIN.out m hlt)
      have HS1 := Lib.hid (HL.out m)
      rw [hs1] at HS1 ⊢
      clear hs1 hl bw b4
      obtain ⟨ph, rd, ad⟩ := s1
      have hw4 := bw4.size
      go_wp2_with (first
        | (refine wpList_build_lst (k := kS) (w := w4) rfl 47 42 1 _ rfl Tryd.underlying47 _ 24 info_spot rfl [⟨ph, rd, ad⟩] rfl (by kernel_rfl) (by omega) (by decide) ?_; intro u5 qu5 gu5 zu5; have o5 := hl4.kept gu5 (by cases (Value.slice A2 m c2).ownBlock <;> simp); have l5 : Lst kS u5 u5.heap.size (some ⟨w4.heap.size, 0, none⟩) 1 [⟨ph, rd, ad⟩] := lst_whole qu5 rfl wf1)
        | (at_builtin; refine wpList_append_lst (k := kS) (w := u5) rfl _ _ 47 42 rfl Tryd.underlying47 _ 24 info_spot rfl w.heap.size u5.heap.size w4.heap.size 0 1 1 (.slice A2 m c2) _ [⟨ph, rd, ad⟩] rfl rfl o5 l5 (by rw [HLL.out]; omega) (by omega) (by have := gu5.size; omega) ?_; intro v6 u6 o6 g6 n6))
      obtain ⟨A6, n6', c6, rfl, _⟩ := o6.form2
      go_roundw
      case rel => exact ⟨m + 1, by omega, by go_num, by rw [HS1.out]; exact o6, (bw4.grown gu5 hw4 (by simp)).grown g6 (by have := gu5.size; omega) (fun r e => (o5.lt r e).1)⟩
      case measure => simp [intOf]; omega
    · obtain rfl : m = M := by omega
      go_wp2_with fail
      go_ret
      exact ⟨_, _, _, rfl, hn2, hl, bw⟩
end Go.Proofs.YtipmfficjomcoaaDoor.Sh
namespace Go.Proofs.YtipmfficjomcoaaDoor.Sh
open Go.RowKit Go.Shelf Mem Held Go.Proofs.YtipmfficjomcoaaDoor.Range Sl
attribute [local go_sem] Oper.semAt_some
attribute [local irreducible] wpList wpListIn Calls
set_option maxRecDepth 100000 in
set_option maxHeartbeats 4000000 in
theorem rwrites_any (r K bb wk kd rd a b : Int) (up : Bool) (hb : TkB ⟨kd, rd, a, b, up⟩) (hK : kd = 1 → 0 ≤ K ∧ K ≤ 4) (w : World) :
    Calls Tryd.prog 45 #[.agg #[.int .i64 r, .int .i64 K, .int .i64 bb, .int .i64 wk], .agg #[.int .i64 kd, .int .i64 rd, .int .i64 a, .int .i64 b, .bool up]] w fun e w' => ∃ A n c, e = .returned (.slice A n c) ∧ Hid ((writesT K ⟨kd, rd, a, b, up⟩).length = n) ∧ OwnL kS 42 w' w.heap.size (.slice A n c) (writesT K ⟨kd, rd, a, b, up⟩) ∧ Below w.heap.size w w' := by
  have h1 : 1 ≤ kd := hb.k1
  have h5 : kd ≤ 5 := hb.k5
  have ho : kd = 1 ∨ kd = 2 ∨ kd = 4 → rd = 0 := hb.one
  have ha0 : 0 ≤ a := hb.a0
  have ha1 : a ≤ 100 := hb.a99
  have hwf := writes_wf hb hK
  rcases (show kd = 1 ∨ kd = 2 ∨ kd = 3 ∨ kd = 4 ∨ kd = 5 by omega) with rfl | rfl | rfl | rfl | rfl
  · -- a task of kind 1
    obtain rfl := ho (.inl rfl)
    obtain ⟨hK0, hK4⟩ := hK rfl
    obtain ⟨KN, rfl⟩ : ∃ KN : Nat, K = (KN : Int) := ⟨K.toNat, by omega⟩
    have HE := Lib.hid (show writesT (KN : Int) ⟨1, 0, a, b, up⟩ = (List.range KN).map (fun i : Nat => (⟨1, 0, (KN : Int) * a + (i : Int)⟩ : Sp)) by
      show ((List.range (KN : Int).toNat).map (fun i : Nat => (KN : Int) * a + (i : Int))).map (fun ad => (⟨1, 0, ad⟩ : Sp)) ++ [] = _
      rw [List.append_nil, List.map_map, Int.toNat_natCast]
      rfl)
    rw [HE.out] at hwf ⊢
    have HWF := Lib.hid hwf
    have hka : (KN : Int) * a ≤ 4 * 100 := Int.mul_le_mul (by omega) ha1 ha0 (by omega)
    have hka0 : 0 ≤ (KN : Int) * a := Int.mul_nonneg (by omega) ha0
    have hmul : IntKind.i64.wrap (a * (KN : Int)) = (KN : Int) * a := by rw [Int.mul_comm, IntKind.wrap_i64]; omega
    obtain ⟨ka, hkae⟩ : ∃ ka, (KN : Int) * a = ka := ⟨_, rfl⟩
    rw [hkae] at hmul hka hka0
    have HKA := Lib.hid hkae
    rw [hkae] at HWF ⊢
    have HLL := Lib.hid (fun (i : Nat) => show ((List.range i).map (fun i : Nat => (⟨1, 0, ka + (i : Int)⟩ : Sp))).length = i by simp)
    have HLN := Lib.hid (fun (i : Nat) => show (List.range (i + 1)).map (fun i : Nat => (⟨1, 0, ka + (i : Int)⟩ : Sp)) = (List.range i).map (fun i : Nat => (⟨1, 0, ka + (i : Int)⟩ : Sp)) ++ [⟨1, 0, ka + (i : Int)⟩] by rw [List.range_succ, List.map_append]; rfl)
    have HIN := Lib.hid (fun (i : Nat) (hi : i < KN) => HWF.out ⟨1, 0, ka + (i : Int)⟩ (List.mem_map.2 ⟨i, List.mem_range.2 hi, rfl⟩))
    clear hwf hkae hb hK ho
    go_enter Tryd.func45, Tryd.ntmps45
    go_wp2_with (first
      | (refine wpList_box_blk (w := w) rfl 23 _ rfl _ rfl ?_; intro u1 qu1 gu1 zu1)
      | (refine wpList_box_blk (w := u1) rfl 34 _ rfl _ rfl ?_; intro u2 qu2 gu2 zu2; have qp2 := qu1.grown gu2 (by simp); have ck := qp2.cell (i := 1) rfl; have c0 := qu2.cell (i := 0) rfl; have c1 := qu2.cell (i := 1) rfl; have c2 := qu2.cell (i := 2) rfl; have c3 := qu2.cell (i := 3) rfl; have b2 : Below w.heap.size w u2 := ((Below.refl _ w).grown gu1 (Nat.le_refl _) (by simp)).grown gu2 gu1.size (by simp); have hs2 := b2.size)
      | (refine wpList_fld0 (w := u2) rfl rfl rfl Tryd.underlying34 rfl (by kernel_rfl) ?_))
    have hs1 : w.heap.size < u1.heap.size := qu1.lt
    generalize u1.heap.size = bt at *
    clear ck c0 c1 c2 c3 gu1 gu2 zu1 zu2 qu1
    go_loopw [5, 6] (fun v i wr => ∃ k' : Nat, k' ≤ KN ∧ i = .int .i64 k' ∧ OwnL kS 42 wr w.heap.size v ((List.range k').map (fun i : Nat => (⟨1, 0, ka + (i : Int)⟩ : Sp))) ∧ Blk wr w.heap.size 23 #[.int .i64 r, .int .i64 (KN : Int), .int .i64 bb, .int .i64 wk] ∧ Blk wr bt 34 #[.int .i64 1, .int .i64 0, .int .i64 a, .int .i64 b, .bool up] ∧ Below w.heap.size w wr) (fun _ i _ => KN - (intOf i).toNat)
    case atStart => exact ⟨0, by omega, rfl, OwnL.nil _ _ _ _, qp2, qu2, b2⟩
    case round =>
      clear qp2 qu2 b2 hs2
      obtain ⟨m, hm, rfl, hl, qp, qt, bw⟩ := hrel
      obtain ⟨A2, n2, c2, rfl, hn2, _, _⟩ := hl.form2
      have hn2' := hn2.out
      rw [HLL.out] at hn2'
      subst hn2'
      have hwz := bw.size
      have ck := qp.cell (i := 1) rfl
      have ct2 := qt.cell (i := 2) rfl
      by_cases hlt : m < KN
      · have hlt' : (m : Int) < (KN : Int) := by omega
        have hadd : IntKind.i64.wrap ((m : Int) + 1) = (m : Int) + 1 := by rw [IntKind.wrap_i64]; omega
        have hadk : IntKind.i64.wrap (ka + (m : Int)) = ka + (m : Int) := by rw [IntKind.wrap_i64]; omega
        have wf1 : ∀ s ∈ [(⟨1, 0, ka + (m : Int)⟩ : Sp)], s.wf := fun s hs => by rw [List.mem_singleton] at hs; subst hs; exact HIN.out m hlt
        have HS1 := Lib.hid (HLN.out m)
        go_wp2_with (first
          | (refine wpList_fld0 (w := wr) rfl rfl rfl Tryd.underlying23 rfl (by kernel_rfl) ?_)
          | (refine wpList_fld0 (w := wr) rfl rfl rfl Tryd.underlying34 rfl (by kernel_rfl) ?_)
          | (refine Held.wpList_run (w := wr) rfl (v := .int .i64 ka) (Held.y_int (S := fun _ => True) (a := a) (b := (KN : Int)) rfl rfl rfl (Held.run_mul 3 .i64 hmul) _ trivial) ?_)
          | (refine wpList_build_blk rfl 42 #[_, _] rfl #[.int .i64 1, .int .i64 0, .int .i64 (ka + (m : Int))] (by kernel_rfl) ?_)
          | (refine wpList_build_lst (k := kS) (w := wr) rfl 47 42 1 _ rfl Tryd.underlying47 _ 24 info_spot rfl [⟨1, 0, ka + (m : Int)⟩] rfl (by kernel_rfl) (by omega) (by decide) ?_; intro u5 qu5 gu5 zu5; have o5 := hl.kept gu5 (by cases (Value.slice A2 m c2).ownBlock <;> simp); have l5 : Lst kS u5 u5.heap.size (some ⟨wr.heap.size, 0, none⟩) 1 [⟨1, 0, ka + (m : Int)⟩] := lst_whole qu5 rfl wf1)
          | (at_builtin; refine wpList_append_lst (k := kS) (w := u5) rfl _ _ 47 42 rfl Tryd.underlying47 _ 24 info_spot rfl w.heap.size u5.heap.size wr.heap.size 0 1 1 (.slice A2 m c2) _ [⟨1, 0, ka + (m : Int)⟩] rfl rfl o5 l5 (by rw [HLL.out]; omega) (by omega) (by have := gu5.size; omega) ?_; intro v6 u6 o6 g6 n6))
        obtain ⟨A6, n6', c6, rfl, _⟩ := o6.form2
        have qp5 := qp.grown gu5 (by simp)
        have qt5 := qt.grown gu5 (by simp)
        go_roundw
        case rel => exact ⟨m + 1, by omega, by go_num, by rw [HS1.out]; exact o6, qp5.grown g6 (Ne.symm (o5.ne_blk qp5 (by decide))), qt5.grown g6 (Ne.symm (o5.ne_blk qt5 (by decide))), (bw.grown gu5 hwz (by simp)).grown g6 (by have := gu5.size; omega) (fun r e => (o5.lt r e).1)⟩
        case measure => simp [intOf]; omega
      · obtain rfl : m = KN := by omega
        go_wp2_with (first
          | (refine wpList_fld0 (w := wr) rfl rfl rfl Tryd.underlying23 rfl (by kernel_rfl) ?_))
        go_ret
        exact ⟨_, _, _, rfl, hn2, hl, bw⟩
  · -- a task of kind 2
    obtain rfl := ho (by simp)
    have HE := Lib.hid (show writesT K ⟨2, 0, a, b, up⟩ = [⟨1, 0, a⟩] from rfl)
    rw [HE.out]
    go_enter Tryd.func45, Tryd.ntmps45
    go_wp2_with (first
      | (refine wpList_box_blk (w := w) rfl 23 _ rfl _ rfl ?_; intro u1 qu1 gu1 zu1)
      | (refine wpList_box_blk (w := u1) rfl 34 _ rfl _ rfl ?_; intro u2 qu2 gu2 zu2; have qp2 := qu1.grown gu2 (by simp); have ck := qp2.cell (i := 1) rfl; have c0 := qu2.cell (i := 0) rfl; have c1 := qu2.cell (i := 1) rfl; have c2 := qu2.cell (i := 2) rfl; have c3 := qu2.cell (i := 3) rfl; have b2 : Below w.heap.size w u2 := ((Below.refl _ w).grown gu1 (Nat.le_refl _) (by simp)).grown gu2 gu1.size (by simp); have hs2 := b2.size)
      | (refine wpList_fld0 (w := u2) rfl rfl rfl Tryd.underlying34 rfl (by kernel_rfl) ?_)
      | (refine wpList_build_blk rfl 42 #[_, _] rfl #[.int .i64 1, .int .i64 0, .int .i64 a] (by kernel_rfl) ?_)
      | (refine wpList_build_lst (k := kS) (w := u2) rfl 47 42 1 _ rfl Tryd.underlying47 _ 24 info_spot rfl [⟨1, 0, a⟩] rfl (by kernel_rfl) (by omega) (by decide) ?_; intro u3 qu3 gu3 zu3))
    go_ret
    exact ⟨_, _, _, rfl, Lib.hid rfl, own_of_blk qu3 hs2 (by unfold maxLen; simp), b2.grown gu3 hs2 (by simp)⟩
  · -- a task of kind 3
    have HE := Lib.hid (show writesT K ⟨3, rd, a, b, up⟩ = [⟨2, rd, a⟩, ⟨2, rd, b⟩] from rfl)
    rw [HE.out]
    go_enter Tryd.func45, Tryd.ntmps45
    go_wp2_with (first
      | (refine wpList_box_blk (w := w) rfl 23 _ rfl _ rfl ?_; intro u1 qu1 gu1 zu1)
      | (refine wpList_box_blk (w := u1) rfl 34 _ rfl _ rfl ?_; intro u2 qu2 gu2 zu2; have qp2 := qu1.grown gu2 (by simp); have ck := qp2.cell (i := 1) rfl; have c0 := qu2.cell (i := 0) rfl; have c1 := qu2.cell (i := 1) rfl; have c2 := qu2.cell (i := 2) rfl; have c3 := qu2.cell (i := 3) rfl; have b2 : Below w.heap.size w u2 := ((Below.refl _ w).grown gu1 (Nat.le_refl _) (by simp)).grown gu2 gu1.size (by simp); have hs2 := b2.size)
      | (refine wpList_fld0 (w := u2) rfl rfl rfl Tryd.underlying34 rfl (by kernel_rfl) ?_)
      | (refine wpList_build_blk rfl 42 #[_, _, (2, .tmp 40)] rfl #[.int .i64 2, .int .i64 rd, .int .i64 a] (by kernel_rfl) ?_)
      | (refine wpList_build_blk rfl 42 #[_, _, (2, .tmp 45)] rfl #[.int .i64 2, .int .i64 rd, .int .i64 b] (by kernel_rfl) ?_)
      | (refine wpList_build_lst (k := kS) (w := u2) rfl 47 42 2 _ rfl Tryd.underlying47 _ 24 info_spot rfl [⟨2, rd, a⟩, ⟨2, rd, b⟩] rfl (by kernel_rfl) (by omega) (by decide) ?_; intro u3 qu3 gu3 zu3))
    go_ret
    exact ⟨_, _, _, rfl, Lib.hid rfl, own_of_blk qu3 hs2 (by unfold maxLen; simp), b2.grown gu3 hs2 (by simp)⟩
  · -- a task of kind 4
    obtain rfl := ho (by simp)
    have HE := Lib.hid (show writesT K ⟨4, 0, a, b, up⟩ = [⟨3, 0, a⟩, ⟨4, 0, a⟩] from rfl)
    rw [HE.out]
    go_enter Tryd.func45, Tryd.ntmps45
    go_wp2_with (first
      | (refine wpList_box_blk (w := w) rfl 23 _ rfl _ rfl ?_; intro u1 qu1 gu1 zu1)
      | (refine wpList_box_blk (w := u1) rfl 34 _ rfl _ rfl ?_; intro u2 qu2 gu2 zu2; have qp2 := qu1.grown gu2 (by simp); have ck := qp2.cell (i := 1) rfl; have c0 := qu2.cell (i := 0) rfl; have c1 := qu2.cell (i := 1) rfl; have c2 := qu2.cell (i := 2) rfl; have c3 := qu2.cell (i := 3) rfl; have b2 : Below w.heap.size w u2 := ((Below.refl _ w).grown gu1 (Nat.le_refl _) (by simp)).grown gu2 gu1.size (by simp); have hs2 := b2.size)
      | (refine wpList_fld0 (w := u2) rfl rfl rfl Tryd.underlying34 rfl (by kernel_rfl) ?_)
      | (refine wpList_build_blk rfl 42 #[_, (2, .tmp 51)] rfl #[.int .i64 3, .int .i64 0, .int .i64 a] (by kernel_rfl) ?_)
      | (refine wpList_build_blk rfl 42 #[_, (2, .tmp 54)] rfl #[.int .i64 4, .int .i64 0, .int .i64 a] (by kernel_rfl) ?_)
      | (refine wpList_build_lst (k := kS) (w := u2) rfl 47 42 2 _ rfl Tryd.underlying47 _ 24 info_spot rfl [⟨3, 0, a⟩, ⟨4, 0, a⟩] rfl (by kernel_rfl) (by omega) (by decide) ?_; intro u3 qu3 gu3 zu3))
    go_ret
    exact ⟨_, _, _, rfl, Lib.hid rfl, own_of_blk qu3 hs2 (by unfold maxLen; simp), b2.grown gu3 hs2 (by simp)⟩
  · -- a task of kind 5
    have HE := Lib.hid (show writesT K ⟨5, rd, a, b, up⟩ = [⟨5, rd, a⟩, ⟨5, rd, b⟩] from rfl)
    rw [HE.out]
    go_enter Tryd.func45, Tryd.ntmps45
    go_wp2_with (first
      | (refine wpList_box_blk (w := w) rfl 23 _ rfl _ rfl ?_; intro u1 qu1 gu1 zu1)
      | (refine wpList_box_blk (w := u1) rfl 34 _ rfl _ rfl ?_; intro u2 qu2 gu2 zu2; have qp2 := qu1.grown gu2 (by simp); have ck := qp2.cell (i := 1) rfl; have c0 := qu2.cell (i := 0) rfl; have c1 := qu2.cell (i := 1) rfl; have c2 := qu2.cell (i := 2) rfl; have c3 := qu2.cell (i := 3) rfl; have b2 : Below w.heap.size w u2 := ((Below.refl _ w).grown gu1 (Nat.le_refl _) (by simp)).grown gu2 gu1.size (by simp); have hs2 := b2.size)
      | (refine wpList_fld0 (w := u2) rfl rfl rfl Tryd.underlying34 rfl (by kernel_rfl) ?_)
      | (refine wpList_build_blk rfl 42 #[_, _, (2, .tmp 60)] rfl #[.int .i64 5, .int .i64 rd, .int .i64 a] (by kernel_rfl) ?_)
      | (refine wpList_build_blk rfl 42 #[_, _, (2, .tmp 65)] rfl #[.int .i64 5, .int .i64 rd, .int .i64 b] (by kernel_rfl) ?_)
      | (refine wpList_build_lst (k := kS) (w := u2) rfl 47 42 2 _ rfl Tryd.underlying47 _ 24 info_spot rfl [⟨5, rd, a⟩, ⟨5, rd, b⟩] rfl (by kernel_rfl) (by omega) (by decide) ?_; intro u3 qu3 gu3 zu3))
    go_ret
    exact ⟨_, _, _, rfl, Lib.hid rfl, own_of_blk qu3 hs2 (by unfold maxLen; simp), b2.grown gu3 hs2 (by simp)⟩
end Go.Proofs.YtipmfficjomcoaaDoor.Sh
