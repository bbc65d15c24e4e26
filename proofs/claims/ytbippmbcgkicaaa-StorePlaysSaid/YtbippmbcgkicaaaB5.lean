/-
  Maps keyed by strings at the operations: looked up, stored into, made, ranged over; strings held against each other: no program here.
  Package store's New, find, Versions, Writes, copied, by their contracts.
  All names of a store, in no order: package store's all and the library's maps.All, and the iterators that they tell, by their contracts.
  The library's contracts of slices.Sort at strings and of sort.Search, laid at this program by the library's own tool.
  A nil store's Names, Fork and Roll, the library's slices.Values, and a list out of an iterator that tells nothing, by their contracts.
  A region that draws its order and in the end stores into what it has loaded: what is loaded ahead of a store that waits for it may be taken first, as long as a condition holds till that store.
  A region that draws its order and stores into what it has loaded: what hangs on no memory may be taken first, whatever waits for it.
  Lists of structs of the call's own, at the operations of a region that draws its order and outside it: read at a place, stored into, appended to; a list of values of one cell built: no program here.
-/
import Derived.Test.YtbippmbcgkicaaaB1
import Derived.Test.YtbippmbcgkicaaaB4
import Derived.Laws.IdiomRangeMap
import Derived.WalkSpells
import Derived.Test.YtbippmbcgkicaaaB3
import Derived.Shelf.Sort.Plain
import Derived.Shelf.Slices.In.SortNone
import Derived.Shelf.SlSorted.Search
import Derived.Ground.SlsoProg
import Derived.Ground.NamesProg
import Derived.Test.YtbippmbcgkicaaaProg
import Derived.Test.YtbippmbcgkicaaaB2
set_option linter.unusedVariables false
namespace Go.Proofs.Ytbippmbcgkicaaa.Sto
open Go.RowKit Go.Shelf Go.Proofs.Ytbippmbcgkicaaa Mem Held
open Go.Maps (Keyed string_keyed)
section
variable {β : Type} {E : EK β} {P : Program} {S : World → Prop} {ρ : Operand → Value} {o : Oper} {K e T : TypeId} {b n : Nat} {M : List (Nm × β)}
theorem y_lookS {m x : Operand} {k : Nm} (ho : o.op = .lookup T m x false) (hm : ρ m = .map (some b)) (hx : ρ x = encStr k) (hk : k.length ≤ maxLen) (hK : P.underlying K = some .string) (hT : P.underlying T = some (.map K e)) (hz : ∀ w, (zeroValue e).run P w = .ok (E.enc E.z) w) (h : ∀ w, S w → MpS E P K w b n M) :
    ∀ w, S w → (execOp ρ o).run P w = .ok (.value (E.enc (lookS E.z M k))) w := fun w hw => by
  have hrun := (h w hw).look hK hT hz hk
  simp [execOp, ho, hm, hx, hrun, Result.andThen]
theorem y_look_nil {m x : Operand} {k : Nm} {z : Value} (ho : o.op = .lookup T m x false) (hm : ρ m = .map none) (hx : ρ x = encStr k) (hk : k.length ≤ maxLen) (hK : P.underlying K = some .string) (hT : P.underlying T = some (.map K e)) (hz : ∀ w, (zeroValue e).run P w = .ok z w) :
    ∀ w, S w → (execOp ρ o).run P w = .ok (.value z) w := fun w hw => by
  have hrun := Maps.look_nil (w := w) false (string_keyed hK) hT (hz w) (key_str hK hk)
  simp [execOp, ho, hm, hx, hrun, Result.andThen]
theorem y_mapnil {t ty : TypeId} {x y : Operand} {A : Option Nat} {k e : TypeId} (ho : o.op = .binOp .eql t x y ty) (hx : ρ x = .map A) (hy : ρ y = .map none) (hu : P.underlying t = some (.map k e)) :
    ∀ w, S w → (execOp ρ o).run P w = .ok (.value (.bool A.isNone)) w := Held.y_bin ho hx hy (fun w => by cases A <;> simp [eqGuard]) (fun w => run_eql_map_nil w t k e A hu)
variable {ops : Array Oper} {rest : List Oper} {a : Act} {w : World} {Q : Exit → Act → World → Prop}
theorem wpList_mapUpdate_S (hw : Region.wanted o (yielded ops a.tmps) = true) (m x y : Operand) (T K : TypeId) (k : Nm) (v : β) (ho : o.op = .mapUpdate T m x y) (b n : Nat) (M : List (Nm × β)) (hm : a.eval m = .map (some b)) (hx : a.eval x = encStr k) (hy : a.eval y = E.enc v) (hk : k.length ≤ maxLen) (hv : E.ok v) (hK : P.underlying K = some .string) (hT : P.underlying T = some (.map K e)) (hM : MpS E P K w b n M) (hn : n ≤ 1048576)
    (h : ∀ w', MpS E P K w' b (n + 1) (putS k v M) → w.grownBy w' (some b) → wpList P ops Q rest (a.put o.dst undef) w') : wpList P ops Q (o :: rest) a w := by
  obtain ⟨w', hrun, h1, h2⟩ := hM.store hK hT hn hk hv
  refine wpList_step fun _ hK' => ?_
  rw [if_pos hw]
  unfold Oper.wp
  simp [execOp, ho, hm, hx, hy, hrun, Result.andThen]
  exact hK' _ _ (h w' h1 h2)
theorem op_mapUpdate_S (i : Nat) (d : Option Tmp) {K' : Act → World → Prop} {m x y : Operand} (k : Nm) (v : β) (hi : ops[i]? = some o) (hd : o.dst = d) (hw : Region.wanted o (yielded ops a.tmps) = true)
    (ho : o.op = .mapUpdate T m x y) (hm : a.eval m = .map (some b)) (hx : a.eval x = encStr k) (hy : a.eval y = E.enc v) (hk : k.length ≤ maxLen) (hv : E.ok v) (hK : P.underlying K = some .string) (hT : P.underlying T = some (.map K e)) (hM : MpS E P K w b n M) (hn : n ≤ 1048576)
    (h : ∀ w', MpS E P K w' b (n + 1) (putS k v M) → w.grownBy w' (some b) → K' (a.put d undef) w') : wpOp P ops Q i K' a w := by
  subst hd
  obtain ⟨w', hrun, h1, h2⟩ := hM.store hK hT hn hk hv
  refine op_wp i hi hw ?_
  unfold Oper.wp
  simp [execOp, ho, hm, hx, hy, hrun, Result.andThen]
  exact h w' h1 h2
theorem wpList_makeMap_S (E : EK β) (hw : Region.wanted o (yielded ops a.tmps) = true) (T K : TypeId) (ho : o.op = .makeMap T none)
    (h : ∀ w', MpS E P K w' w.heap.size 0 [] → w.grownBy w' none → Hid (w'.heap.size = w.heap.size + 1) → wpList P ops Q rest (a.put o.dst (.map (some w.heap.size))) w') : wpList P ops Q (o :: rest) a w := by
  have hrun := run_makeMap (P := P) T w
  refine wpList_step fun _ hK' => ?_
  rw [if_pos hw]
  unfold Oper.wp
  simp [execOp, ho, hrun, Result.andThen]
  exact hK' _ _ (h _ (MpS.made E w P K) (World.grownBy_alloc w _ none) (Lib.hid (by simp)))
end
section
variable {P : Program} {ops : Array Oper} {rest : List Oper} {o : Oper} {a : Act} {w : World} {Q : Exit → Act → World → Prop} {n : Nat} {r : Option Nat} {F : Fence}
theorem wpListIn_ran (hF : F = wideR r) (hg : o.guard = none) (ho : ∀ c, o.op ≠ .defer c) {v : Value} {w' : World} (hr : (execOp a.eval o).run P w = .ok (.value v) w') (h : wpListIn F n P ops Q rest (a.put o.dst v) w') : wpListIn F n P ops Q (o :: rest) a w := by
  subst hF
  refine wpListIn_plain hg fun K hK => ?_
  unfold Oper.wpIn
  refine ⟨fun _ _ => trivial, ?_⟩
  rw [Oper.semAt_plain (wideR r) _ _ ho, hr]
  exact hK _ _ h
end
theorem less_eq : ∀ (x y : List UInt8), Op.bytesLess x y = decide (x < y)
  | [], [] => by simp [Op.bytesLess]
  | [], b :: y => by simp [Op.bytesLess]
  | a :: x, [] => by simp [Op.bytesLess]
  | a :: x, b :: y => by
    rw [Op.bytesLess, less_eq x y]
    by_cases h : a = b
    · subst h
      simp
    · simp [h, List.cons_lt_cons_iff]
theorem toL (x : List UInt8) : (ByteArray.mk x.toArray).toList = x := by
  rw [ByteArray.toList_eq]
end Go.Proofs.Ytbippmbcgkicaaa.Sto
namespace Go.Proofs.Ytbippmbcgkicaaa.Sto
open Go.RowKit Go.Shelf Go.Proofs.Ytbippmbcgkicaaa Mem Held Sl Go.Proofs.Ytbippmbcgkicaaa.Range
attribute [local irreducible] wpList wpListIn Calls
theorem zero_ptr (w : World) : (zeroValue 65).run Try.prog w = .ok (eP.enc eP.z) w := by kernel_rfl
theorem ent_keys (es : List Ent) : (es.map fun e => (e.k, some e.h)).map (·.1) = es.map (·.k) := by simp [List.map_map, Function.comp_def]
theorem look_ent {es : List Ent} (hk : (es.map (·.k)).Nodup) {e : Ent} (he : e ∈ es) : lookS (none : Option Nat) (es.map fun e => (e.k, some e.h)) e.k = some e.h :=
  lookS_at (z := none) (l := es.map fun e => (e.k, some e.h)) (by rw [ent_keys]; exact hk) (x := (e.k, some e.h)) (List.mem_map.2 ⟨e, he, rfl⟩)
theorem look_no {es : List Ent} {k : Nm} (hk : ∀ e ∈ es, e.k ≠ k) : lookS (none : Option Nat) (es.map fun e => (e.k, some e.h)) k = none :=
  lookS_none (by
    rw [ent_keys, List.mem_map]
    rintro ⟨e, he, h⟩
    exact hk e he h)
set_option maxRecDepth 100000 in
set_option maxHeartbeats 4000000 in
theorem new_any (w : World) : Calls Try.prog 7 #[] w fun r w' => ∃ s ow, r = .returned (.pointer (some ⟨s, 0, none⟩)) ∧ Sto ow w' s 0 0 [] ∧ Below w.heap.size w w' ∧ (∀ b, ow b ≠ 0 → w.heap.size ≤ b) := by
  go_enter Try.func7, Try.ntmps7
  go_wp2_with (refine wpList_box_blk (w := w) rfl 64 _ rfl _ rfl ?_; intro u1 qu1 gu1 zu1)
  go_ret
  refine ⟨_, fun r => if r = w.heap.size then w.heap.size + 2 else 0, rfl, ⟨by simp, ⟨_, qu1, .inl ⟨rfl, rfl⟩⟩, by simp, by simp, by simp, by simp, by simp, by simp, fun r hr => ?_, by simp⟩, (Below.refl _ w).grown gu1 (Nat.le_refl _) (by simp), fun b hb => ?_⟩
  · by_cases h : r = w.heap.size
    · subst h; exact qu1.lt
    · simp [h] at hr
  · by_cases h : b = w.heap.size
    · omega
    · simp [h] at hb
set_option maxRecDepth 100000 in
set_option maxHeartbeats 4000000 in
theorem find_as {ow : Nat → Nat} {w : World} {s N : Nat} {W : Int} {es : List Ent} (H : Sto ow w s W N es) {k : Nm} (hk : k.length ≤ maxLen) :
    Calls Try.prog 32 #[.pointer (some ⟨s, 0, none⟩), encStr k] w fun r w' => r = .returned (ptrV (lookS none (es.map fun e => (e.k, some e.h)) k)) ∧ w = w' := by
  obtain ⟨mv, hb, hm⟩ := H.blk
  have hc := hb.cell (i := 0) rfl
  rcases hm with ⟨rfl, rfl⟩ | ⟨b, rfl, _, hM⟩
  · go_enter Try.func32, Try.ntmps32
    go_wp2_with (refine Held.wpList_run (w := w) rfl (y_look_nil (S := fun _ => True) rfl rfl rfl hk Try.underlying9 Try.underlying62 zero_ptr _ trivial) ?_)
    go_ret
    exact ⟨rfl, rfl⟩
  · have hrun := fun (o : Oper) (ρ : Operand → Value) (m x : Operand) (ho : o.op = .lookup 62 m x false) (h1 : ρ m = .map (some b)) (h2 : ρ x = encStr k) => y_lookS (S := fun W => W = w) ho h1 h2 hk Try.underlying9 Try.underlying62 zero_ptr (fun W hW => hW ▸ hM) w rfl
    have hz : (eP.z : Option Nat) = none := rfl
    rw [hz] at hrun
    have HR := Lib.hid hrun
    generalize hv : lookS none (es.map fun e => (e.k, some e.h)) k = v at HR
    clear hrun hz hM
    go_enter Try.func32, Try.ntmps32
    go_wp2_with (refine Held.wpList_run (w := w) rfl (HR.out _ _ _ _ rfl rfl rfl) ?_)
    go_ret
    exact ⟨rfl, rfl⟩
theorem find_some {ow : Nat → Nat} {w : World} {s N : Nat} {W : Int} {es : List Ent} (H : Sto ow w s W N es) {e : Ent} (he : e ∈ es) :
    Calls Try.prog 32 #[.pointer (some ⟨s, 0, none⟩), encStr e.k] w fun r w' => r = .returned (.pointer (some ⟨e.h, 0, none⟩)) ∧ w = w' := by
  have h := find_as H (H.few e he).2.2
  rw [look_ent H.keys he] at h
  exact h
theorem find_none {ow : Nat → Nat} {w : World} {s N : Nat} {W : Int} {es : List Ent} (H : Sto ow w s W N es) {k : Nm} (hk : k.length ≤ maxLen) (hn : ∀ e ∈ es, e.k ≠ k) :
    Calls Try.prog 32 #[.pointer (some ⟨s, 0, none⟩), encStr k] w fun r w' => r = .returned (.pointer none) ∧ w = w' := by
  have h := find_as H hk
  rw [look_no hn] at h
  exact h
theorem writes_any {ow : Nat → Nat} {w : World} {s N : Nat} {W : Int} {es : List Ent} (H : Sto ow w s W N es) :
    Calls Try.prog 30 #[.pointer (some ⟨s, 0, none⟩)] w fun r w' => r = .returned (.int .i64 W) ∧ w = w' := by
  obtain ⟨mv, hb, _⟩ := H.blk
  have hc := hb.cell (i := 1) rfl
  go_enter Try.func30, Try.ntmps30
  go_wp2
  go_ret
  exact ⟨rfl, rfl⟩
theorem versions_none {ow : Nat → Nat} {w : World} {s N : Nat} {W : Int} {es : List Ent} (H : Sto ow w s W N es) {k : Nm} (hk : k.length ≤ maxLen) (hn : ∀ e ∈ es, e.k ≠ k) :
    Calls Try.prog 29 #[.pointer (some ⟨s, 0, none⟩), encStr k] w fun r w' => r = .returned (.int .i64 0) ∧ w = w' := by
  go_enter Try.func29, Try.ntmps29
  go_wp2_with fail
  refine (find_none H hk hn).mono ?_
  rintro e w1 ⟨rfl, rfl⟩
  go_wp2_with fail
  go_ret
  exact ⟨rfl, rfl⟩
theorem versions_some {ow : Nat → Nat} {w : World} {s N : Nat} {W : Int} {es : List Ent} (H : Sto ow w s W N es) {x : Ent} (he : x ∈ es) :
    Calls Try.prog 29 #[.pointer (some ⟨s, 0, none⟩), encStr x.k] w fun r w' => r = .returned (.int .i64 (x.vs.length : Int)) ∧ w = w' := by
  obtain ⟨_, vv, ww, hb, hv, _⟩ := H.hist x he
  have hc := hb.cell (i := 0) rfl
  obtain ⟨A, n, c, rfl, hn, _⟩ := hv.form2
  rw [hn.out]
  have HF := Lib.hid (find_some H he)
  clear hv
  go_enter Try.func29, Try.ntmps29
  go_wp2_with fail
  refine HF.out.mono ?_
  rintro e w1 ⟨rfl, rfl⟩
  go_wp2_with fail
  go_ret
  exact ⟨rfl, rfl⟩
theorem copied_any {S : Nat → Prop} {w : World} {x : Bs} (h : Rd S w x) : Calls Try.prog 40 #[.slice x.A x.n x.c] w fun r w' =>
    ∃ y : Bs, r = .returned (.slice y.A y.n y.c) ∧ y.zs = x.zs ∧ Mem.Own w' w.heap.size 5 .u8 (.slice y.A y.n y.c) x.zs ∧ Rd (fun b => w.heap.size ≤ b) w' y ∧ Below w.heap.size w w' := by
  obtain ⟨h1, h2, h3⟩ := h
  go_enter Try.func40, Try.ntmps40
  go_wp2_with (at_builtin; refine wpList_append_ints _ rfl _ _ 31 rfl w.heap.size 5 .u8 1 Try.underlying31 Help.info_u8 (.slice none 0 0) [] rfl (Own.nil _ _ _ _) w.heap.size x.A x.n x.c x.zs rfl h1 (by simp; omega) (by omega) (Nat.le_refl _) ?_; intro v1 w1 hown1 hg1 hat1)
  go_ret
  have ho : Mem.Own w1 w.heap.size 5 .u8 v1 x.zs := by simpa using hown1
  obtain ⟨A, c, rfl, hle, hm, hi⟩ := ho.form
  refine ⟨⟨A, x.zs.length, c, x.zs⟩, rfl, rfl, ho, ⟨hi, by rw [h1.1]; exact h2, fun b off p e hn => ?_⟩, (Below.refl _ _).grown hg1 (Nat.le_refl _) (by simp [Value.ownBlock])⟩
  rcases ho.2.2 with ⟨e1, hn'⟩ | ⟨g, cap, cur, e1, hb, _⟩
  · injection e1 with e1
    rw [e1] at e
    cases e
  · injection e1 with e1
    rw [e1] at e
    injection e with e
    injection e with e
    omega
end Go.Proofs.Ytbippmbcgkicaaa.Sto
namespace Go.Proofs.Ytbippmbcgkicaaa.Sto
open Go.RowKit Go.Shelf Go.Proofs.Ytbippmbcgkicaaa Mem Held Sl Go.Proofs.Ytbippmbcgkicaaa.Range
attribute [local go_sem] Oper.semAt_some
attribute [local irreducible] wpList wpListIn Calls
def encE (x : Nm × Option Nat) : Array Value := #[encStr x.1, ptrV x.2]
def nxE (l : List (Nm × Option Nat)) (x : Nm × Option Nat) (l' : List (Nm × Option Nat)) : Prop := x ∈ l ∧ l' = l.filter fun p => !decide (p.1 = x.1)
def finE (l : List (Nm × Option Nat)) : Prop := l = []
theorem run_next_none {P : Program} {w : World} {r a c : Nat} {s : Array Nat} (ty : TypeId) (hr : w.heap[r]? = some (.mapIter none a s c)) : (Instr.next (.pointer (some ⟨r, 0, none⟩)) false ty).run P w = .ok (.tuple #[.bool false]) w := by
  simp only [Instr.next, getObj, Sem.run_bind, Sem.run, hr, Result.andThen]
  rfl
section
variable {P : Program} {ρ : Operand → Value} {o : Oper} {w w' : World} {v p : Value}
theorem run_opRange {t : TypeId} {m : Operand} (ho : o.op = .range t m) (hm : ρ m = p) (hr : (Instr.range t p).run P w = .ok v w') : (execOp ρ o).run P w = .ok (.value v) w' := by
  simp [execOp, ho, hm, hr, Result.andThen]
theorem run_opNext {it : Operand} (ho : o.op = .next it false) (hm : ρ it = p) (hr : (Instr.next p false o.type).run P w = .ok v w') : (execOp ρ o).run P w = .ok (.value v) w' := by
  simp [execOp, ho, hm, hr, Result.andThen]
theorem run_opEntry {it : Operand} (ho : o.op = .entry it) (hm : ρ it = p) (hr : (Instr.entry p).run P w = .ok v w') : (execOp ρ o).run P w = .ok (.value v) w' := by
  simp [execOp, ho, hm, hr, Result.andThen]
end
theorem kp_obj {S : Nat → Prop} {W W' : World} {r : Nat} (h : KeepsP S W W') (hs : S r) : ∀ o, W.heap[r]? = some o → W'.heap[r]? = some o := fun o ho => h.block r o hs ho
set_option maxRecDepth 100000 in
set_option maxHeartbeats 4000000 in
theorem nil_t (N bx : Nat) (w : World) (q : Blk w bx 62 #[.map none]) : SeqT Fence.wide N Try.prog 64 #[.pointer (some ⟨bx, 0, none⟩)] (fun r => r = bx) encE nxE finE [] w := by
  intro l J Jx W hW hJ hJx hY h00
  have q := q.after hW
  have hc := q.cell (i := 0) rfl
  obtain ⟨W2, hW2⟩ : ∃ W2, W2 = W.alloc (.mapIter none 0 #[] 0) := ⟨_, rfl⟩
  have hrun := run_range_nilMap W 62 _ _ Try.underlying62
  have J2 := hJ.same h00 (World.grownBy_alloc W (.mapIter none 0 #[] 0) none)
  have hr2 : (W.alloc (.mapIter none 0 #[] 0)).heap[W.heap.size]? = some (.mapIter none 0 #[] 0) := World.alloc_heap_new W _
  rw [← hW2] at hrun J2 hr2
  clear hY hW h00 hW2
  refine callsIn_of_wp Try.func64 rfl trivial ?_ rfl
  simp only [Try.ntmps64, List.size_toArray, List.length_cons, List.length_nil, Nat.reduceAdd, Nat.reduceSub, Array.replicate_succ, Array.replicate_zero, List.push_toArray, List.append_toArray, List.nil_append, List.cons_append]
  gi_wp2_with (refine wpListIn_ran (r := none) (w := W) rfl rfl (by intro c e; cases e) (run_opRange rfl rfl hrun) ?_)
  clear hc q hrun
  simp only [Act.put, Z1, Z2, Z3]
  gi_loopw [] (fun wr => J (fun _ => False) [] wr ∧ wr.heap[W.heap.size]? = some (.mapIter none 0 #[] 0)) (fun _ => 0)
  case atStart => exact ⟨J2, hr2⟩
  case round =>
    obtain ⟨Jk, hr⟩ := hrel
    clear J2 hr2
    gi_wp2_with (refine wpListIn_ran (r := none) (w := wr) rfl rfl (by intro c e; cases e) (run_opNext rfl rfl (run_next_none _ hr)) ?_)
    go_end0
    exact ⟨⟨_, rfl⟩, .inl ⟨_, [], rfl, Jk⟩⟩
set_option maxRecDepth 100000 in
set_option maxHeartbeats 8000000 in
theorem map_t (N bx b n : Nat) (w : World) (M : List (Nm × Option Nat)) (q : Blk w bx 62 #[.map (some b)]) (hM : MpS eP Try.prog 9 w b n M) : SeqT Fence.wide N Try.prog 64 #[.pointer (some ⟨bx, 0, none⟩)] (fun r => r = bx ∨ r = b) encE nxE finE M w := by
  intro l J Jx W hW hJ hJx hY h00
  have q := q.after hW
  have hM := hM.below hW
  have hc := q.cell (i := 0) rfl
  have hbl := hM.lt
  obtain ⟨W2, hrun, hrg, hg2, hz2⟩ := hM.range (T := 62) Try.underlying9 Try.underlying62
  have HY := Lib.hid hY
  clear hW hY hM
  refine callsIn_of_wp Try.func64 rfl trivial ?_ rfl
  simp only [Try.ntmps64, List.size_toArray, List.length_cons, List.length_nil, Nat.reduceAdd, Nat.reduceSub, Array.replicate_succ, Array.replicate_zero, List.push_toArray, List.append_toArray, List.nil_append, List.cons_append]
  gi_wp2_with (refine wpListIn_ran (r := none) (w := W) rfl rfl (by intro c e; cases e) (run_opRange rfl rfl hrun) ?_)
  have J2 := hJ.one h00 hg2 W.heap.size (Nat.le_refl _) (by omega)
  have q2 := q.grown hg2 (by simp)
  have hz2 := Lib.hid hz2
  clear hc q h00 hg2 hrun
  gi_loopw [] (fun wr => ∃ (rem : List (Nm × Option Nat)) (pv : Nat → Prop), pv W.heap.size ∧ J pv rem wr ∧ RgS eP Try.prog 9 wr b W.heap.size n M rem ∧ Blk wr bx 62 #[.map (some b)]) (fun wr => wr.rangeLeft b W.heap.size)
  case atStart => exact ⟨M, _, .inr rfl, J2, hrg, q2⟩
  case round =>
    clear J2 q2 hrg
    obtain ⟨rem, pv, hpv, Jk, hrg, q⟩ := hrel
    rcases hrg.next Try.underlying9 0 with ⟨rfl, hrun⟩ | ⟨x, w3, hx, hrun, hrg3, hg3, hz3, hlt3, hen⟩
    · gi_wp2_with (refine wpListIn_ran (r := none) (w := wr) rfl rfl (by intro c e; cases e) (run_opNext rfl rfl hrun) ?_)
      go_end0
      exact ⟨⟨_, rfl⟩, .inl ⟨_, [], rfl, Jk⟩⟩
    · have J3 := hJ.put _ _ _ _ _ Jk hpv hg3
      have q3 := q.grown hg3 (by
        intro e
        injection e with e
        subst e
        obtain ⟨D, left, cnt, ⟨_, _, _, _, _, _, _, _, _, h5, _⟩, _⟩ := hrg
        have hq : wr.heap[W.heap.size]? = some (.cells #[.map (some b)] 62 (0, 0)) := q
        rw [h5] at hq
        cases hq)
      obtain ⟨fn, tmps, assign, body, hy, hR⟩ := HY.out pv rem x _ w3 J3 ⟨hx, rfl⟩
      have hy : (Instr.yield l #[encStr x.1, ptrV x.2]).run Try.prog w3 = .ok (.round l fn tmps assign body) w3 := hy
      have hen : (Instr.entry (.pointer (some ⟨W.heap.size, 0, none⟩))).run Try.prog w3 = .ok (.tuple #[encStr x.1, ptrV x.2]) w3 := hen
      have hrun : (Instr.next (.pointer (some ⟨W.heap.size, 0, none⟩)) false 0).run Try.prog wr = .ok (.tuple #[.bool true, encStr x.1, ptrV x.2]) w3 := hrun
      obtain ⟨k, p⟩ := x
      simp only at hy hen hrun hR hrg3
      have HH := Lib.hid (And.intro hrg3 (And.intro hlt3 hx))
      clear J3 Jk hrg hg3 hz3 q hrg3 hlt3 hx
      gi_wp2_with (first
        | (refine wpListIn_ran (r := none) (w := wr) rfl rfl (by intro c e; cases e) (run_opNext rfl rfl hrun) ?_)
        | (refine wpListIn_ran (r := none) (w := w3) rfl rfl (by intro c e; cases e) (run_opEntry rfl rfl hen) ?_))
      refine ⟨fun h => (by cases h), ?_⟩
      refine hR.mono ?_
      rintro e w6 ⟨kp, (⟨rfl, J6⟩ | ⟨rfl, x6⟩)⟩
      · obtain ⟨hrg3, hlt3, hx⟩ := HH.out
        have kb := kp_obj kp (r := b) (.inl (.inr rfl))
        have kr := kp_obj kp (r := W.heap.size) (.inr hpv)
        have q6 := kp_obj kp (r := bx) (.inl (.inl rfl)) _ q3
        have hrg6 := hrg3.same kb kr
        have hlt6 : w6.rangeLeft b W.heap.size < wr.rangeLeft b W.heap.size := by rw [hrg3.left_same kb kr]; exact hlt3
        have H6 := Lib.hid (And.intro hrg6 (And.intro hlt6 q6))
        clear hR hy kp q3 kb kr hrg6 hlt6 q6 hrg3 hlt3 hx hen hrun
        gi_wp2_with fail
        go_roundw
        case rel => exact ⟨_, pv, hpv, J6, H6.out.1, H6.out.2.2⟩
        case measure => exact H6.out.2.1
      · gi_wp2_with fail
        exact bodyPost_ret (results_none rfl _ _ _) rfl ⟨⟨_, rfl⟩, .inr ⟨_, _, x6⟩⟩
set_option maxRecDepth 100000 in
set_option maxHeartbeats 4000000 in
theorem mapall_any (mv : Value) (w : World) (hm : mv.cells = #[mv]) : Calls Try.prog 54 #[mv] w fun r w' => ∃ bx, r = .returned (.func (.func 64) #[] #[.pointer (some ⟨bx, 0, none⟩)]) ∧ Blk w' bx 62 #[mv] ∧ w.heap.size ≤ bx ∧ Below w.heap.size w w' := by
  go_enter Try.func54, Try.ntmps54
  go_wp2_with (refine wpList_box_cell (w := w) rfl 62 _ rfl mv rfl hm ?_; intro u1 q1 g1 z1)
  go_ret
  exact ⟨_, rfl, q1, Nat.le_refl _, (Below.refl _ w).grown g1 (Nat.le_refl _) (by simp)⟩
theorem all_any {ow : Nat → Nat} {w : World} {s N : Nat} {W : Int} {es : List Ent} (H : Sto ow w s W N es) :
    Calls Try.prog 38 #[.pointer (some ⟨s, 0, none⟩)] w fun r w' => ∃ (bx : Nat) (Nd : Nat → Prop), r = .returned (.func (.func 64) #[] #[.pointer (some ⟨bx, 0, none⟩)]) ∧ (∀ K, SeqT Fence.wide K Try.prog 64 #[.pointer (some ⟨bx, 0, none⟩)] Nd encE nxE finE (es.map fun e => (e.k, some e.h)) w') ∧ (∀ r, Nd r → (w.heap.size ≤ r ∨ ow r = s + 2) ∧ r < w'.heap.size) ∧ Below w.heap.size w w' := by
  obtain ⟨mv, hb, hm⟩ := H.blk
  have hc := hb.cell (i := 0) rfl
  have hmc : mv.cells = #[mv] := by rcases hm with ⟨rfl, _⟩ | ⟨b, rfl, _⟩ <;> rfl
  go_enter Try.func38, Try.ntmps38
  go_wp2_with fail
  refine (mapall_any mv w hmc).mono ?_
  rintro r1 w1 ⟨bx, rfl, qx, hbx, b1⟩
  go_wp2_with fail
  go_ret
  rcases hm with ⟨rfl, rfl⟩ | ⟨b, rfl, hob, hM⟩
  · exact ⟨bx, _, rfl, fun K => nil_t K bx w1 qx, fun r hr => by cases hr; exact ⟨.inl hbx, qx.lt⟩, b1⟩
  · have hM1 := hM.below b1
    exact ⟨bx, _, rfl, fun K => map_t K bx b N w1 _ qx hM1, fun r hr => by
      rcases hr with rfl | rfl
      · exact ⟨.inl hbx, qx.lt⟩
      · exact ⟨.inr hob, hM1.lt⟩, b1⟩
end Go.Proofs.Ytbippmbcgkicaaa.Sto
namespace Go.Proofs
open Go.Shelf Go.Sort Go.RowKit Go.Lib
def Try.lays190_ren : Go.Shelf.Ren := ⟨fun | 190 => 51 | 125 => 62 | 258 => 61 | 128 => 74 | 129 => 75 | 302 => 65 | 303 => 66 | 304 => 67 | 305 => 68 | 306 => 69 | 307 => 70 | 308 => 71 | 309 => 72 | 310 => 73 | 333 => 76 | 329 => 77 | 330 => 78 | 334 => 79 | 335 => 80 | 336 => 81 | 344 => 82 | n => n, fun | 31 => 46 | 9 => 9 | 3 => 3 | 46 => 54 | 0 => 0 | 51 => 107 | 53 => 109 | 4 => 4 | 183 => 101 | 182 => 100 | 131 => 74 | 5 => 5 | 218 => 110 | 222 => 114 | 228 => 116 | 229 => 117 | n => n, fun | n => n⟩
theorem Try.lays190 : Go.Proofs.Lays.n190 Try.prog Try.lays190_ren := {
  mixed := by kernel_rfl
  f125 := Try.func62.trans (congrArg some (by kernel_rfl))
  f128 := Try.func74.trans (congrArg some (by kernel_rfl))
  f129 := Try.func75.trans (congrArg some (by kernel_rfl))
  f190 := Try.func51.trans (congrArg some (by kernel_rfl))
  f258 := Try.func61.trans (congrArg some (by kernel_rfl))
  f302 := Try.func65.trans (congrArg some (by kernel_rfl))
  f303 := Try.func66.trans (congrArg some (by kernel_rfl))
  f304 := Try.func67.trans (congrArg some (by kernel_rfl))
  f305 := Try.func68.trans (congrArg some (by kernel_rfl))
  f306 := Try.func69.trans (congrArg some (by kernel_rfl))
  f307 := Try.func70.trans (congrArg some (by kernel_rfl))
  f308 := Try.func71.trans (congrArg some (by kernel_rfl))
  f309 := Try.func72.trans (congrArg some (by kernel_rfl))
  f310 := Try.func73.trans (congrArg some (by kernel_rfl))
  f329 := Try.func77.trans (congrArg some (by kernel_rfl))
  f330 := Try.func78.trans (congrArg some (by kernel_rfl))
  f333 := Try.func76.trans (congrArg some (by kernel_rfl))
  f334 := Try.func79.trans (congrArg some (by kernel_rfl))
  f335 := Try.func80.trans (congrArg some (by kernel_rfl))
  f336 := Try.func81.trans (congrArg some (by kernel_rfl))
  f344 := Try.func82.trans (congrArg some (by kernel_rfl))
  t0 := Try.underlying0
  a0 := Try.isAgg0
  z0 := Try.sizeOf0
  v0 := Try.zeroValue0
  t3 := Try.underlying3
  a3 := Try.isAgg3
  z3 := Try.sizeOf3
  v3 := Try.zeroValue3
  t4 := Try.underlying4
  a4 := Try.isAgg4
  z4 := Try.sizeOf4
  v4 := Try.zeroValue4
  t5 := Try.underlying5
  a5 := Try.isAgg5
  z5 := Try.sizeOf5
  v5 := Try.zeroValue5
  t9 := Try.underlying9
  a9 := Try.isAgg9
  z9 := Try.sizeOf9
  v9 := Try.zeroValue9
  t31 := Try.underlying46
  a31 := Try.isAgg46
  z31 := Try.sizeOf46
  v31 := Try.zeroValue46
  t46 := Try.underlying54
  a46 := Try.isAgg54
  z46 := Try.sizeOf54
  v46 := Try.zeroValue54
  t51 := Try.underlying107
  a51 := Try.isAgg107
  z51 := Try.sizeOf107
  v51 := Try.zeroValue107
  t53 := Try.underlying109
  a53 := Try.isAgg109
  z53 := Try.sizeOf109
  v53 := Try.zeroValue109
  t131 := Try.underlying74
  a131 := Try.isAgg74
  z131 := Try.sizeOf74
  v131 := Try.zeroValue74
  t182 := Try.underlying100
  a182 := Try.isAgg100
  z182 := Try.sizeOf100
  v182 := Try.zeroValue100
  t183 := Try.underlying101
  a183 := Try.isAgg101
  z183 := Try.sizeOf101
  v183 := Try.zeroValue101
  t218 := Try.underlying110
  a218 := Try.isAgg110
  z218 := Try.sizeOf110
  v218 := Try.zeroValue110
  t222 := Try.underlying114
  a222 := Try.isAgg114
  z222 := Try.sizeOf114
  v222 := Try.zeroValue114
  t228 := Try.underlying116
  a228 := Try.isAgg116
  z228 := Try.sizeOf116
  v228 := Try.zeroValue116
  t229 := Try.underlying117
  a229 := Try.isAgg117
  z229 := Try.sizeOf117
  v229 := Try.zeroValue117 }
theorem Try.slices_Sort_string (blk off cap : Nat) (ss : List (List UInt8)) (w : World) (hH : Holds encStr w blk off ss.toArray) (hblk : blk < w.heap.size) (hsz : ss.length < 4611686018427387904) :
    Calls Try.prog 51 #[.slice (some ⟨blk, off, none⟩) ss.length cap] w fun e w' =>
      e = .returned (.tuple #[]) ∧ ∃ n os, w' = grow (putRow encStr (Sort.ahead w n) blk off (ss.mergeSort fun x y => decide (x ≤ y)).toArray) os := Any.slices_Sort_string Try.lays190 blk off cap ss w hH hblk hsz
theorem Try.slices_Sort_string_none (p : Option Addr) (cap : Nat) (w : World) :
    Calls Try.prog 51 #[.slice p 0 cap] w fun e w' => e = .returned (.tuple #[]) ∧ w' = w := Any.slices_Sort_string_none Try.lays190 p cap w
def Try.search_ren : Go.Shelf.Ren := ⟨fun | 16 => 55 | n => n, fun | 3 => 3 | 35 => 37 | 4 => 4 | 38 => 54 | n => n, fun | n => n⟩
theorem Try.search : Go.Proofs.SlLaysO.n16 Try.prog Try.search_ren := {
  mixed := by kernel_rfl
  f16 := Try.func55.trans (congrArg some (by kernel_rfl))
  t3 := Try.underlying3
  a3 := Try.isAgg3
  z3 := Try.sizeOf3
  v3 := Try.zeroValue3
  t4 := Try.underlying4
  a4 := Try.isAgg4
  z4 := Try.sizeOf4
  v4 := Try.zeroValue4
  t35 := Try.underlying37
  a35 := Try.isAgg37
  z35 := Try.sizeOf37
  v35 := Try.zeroValue37
  t38 := Try.underlying54
  a38 := Try.isAgg54
  z38 := Try.sizeOf54
  v38 := Try.zeroValue54 }
theorem Try.sort_Search (g : Nat) (cb : Array Value) (n : Nat) (p : Nat → Bool) (w : World) (eg : ∀ args w, (callFunc g args).run Try.prog w = .ok (.enter g args) w) (hsz : n < 4611686018427387904)
    (hf : ∀ (m : Nat) (os : Array Obj) (i : Nat), i < n → Calls Try.prog g (#[.int .i64 i] ++ cb) (grow (w.drewN m) os) fun e w' => e = .returned (.bool (p i)) ∧ ∃ q os', w' = grow ((grow (w.drewN m) os).drewN q) os')
    (hmono : ∀ a b, a ≤ b → b < n → p a = true → p b = true) :
    Calls Try.prog 55 #[.int .i64 n, .func (.func g) #[] cb] w fun e w' => e = .returned (.int .i64 ((List.range n).countP (fun i => !p i) : Nat)) ∧ ∃ q os, w' = grow (w.drewN q) os := Any.sort_Search Try.search g cb n p w eg hsz hf hmono
end Go.Proofs
namespace Go.Proofs.Ytbippmbcgkicaaa.Sto
open Go.RowKit Go.Shelf Go.Proofs.Ytbippmbcgkicaaa Mem Held Sl Go.Proofs.Ytbippmbcgkicaaa.Range
attribute [local go_sem] Oper.semAt_some
attribute [local irreducible] wpList wpListIn Calls
theorem stay_no {β : Type} : Stay (fun (_ : Nat → Prop) (_ : β) (_ : World) => False) where
  new _ _ _ _ _ h _ _ _ := h
  put _ _ _ _ _ h _ _ := h
set_option maxRecDepth 100000 in
set_option maxHeartbeats 4000000 in
theorem values_any (A : Option Addr) (n c : Nat) (w : World) : Calls Try.prog 52 #[.slice A n c] w fun r w' => ∃ bx, r = .returned (.func (.func 63) #[] #[.pointer (some ⟨bx, 0, none⟩)]) ∧ Blk w' bx 46 #[.slice A n c] ∧ w.heap.size ≤ bx ∧ Below w.heap.size w w' := by
  go_enter Try.func52, Try.ntmps52
  go_wp2_with (refine wpList_box_cell (w := w) rfl 46 _ rfl (.slice A n c) rfl rfl ?_; intro u1 q1 g1 z1)
  go_ret
  exact ⟨_, rfl, q1, Nat.le_refl _, (Below.refl _ w).grown g1 (Nat.le_refl _) (by simp)⟩
theorem results_two {P : Program} {fn : Func} {p q : Tmp} {t u : TypeId} (h : fn.results = #[.cell p t, .cell q u]) (tmps : Array Value) (w : World) (g g' : Nat) (v v' : Value) (hp : tmps.getD p undef = .pointer (some ⟨g, 0, none⟩)) (hq : tmps.getD q undef = .pointer (some ⟨g', 0, none⟩))
    (ht : plainT P t = true) (hu : plainT P u = true) (hc : w.cell? ⟨g, 0, none⟩ = some v) (hc' : w.cell? ⟨g', 0, none⟩ = some v') : (results fn tmps).run P w = .ok (.tuple #[v, v']) w := by
  have a1 : (asAddr (.pointer (some ⟨g, 0, none⟩))).run P w = .ok ⟨g, 0, none⟩ w := by simp [asAddr]
  have a2 : (asAddr (.pointer (some ⟨g', 0, none⟩))).run P w = .ok ⟨g', 0, none⟩ w := by simp [asAddr]
  have hp2 : tmps[p]?.getD undef = .pointer (some ⟨g, 0, none⟩) := by simpa using hp
  have hq2 : tmps[q]?.getD undef = .pointer (some ⟨g', 0, none⟩) := by simpa using hq
  simp only [results, h]
  simp [Sem.run_bind, Result.andThen, hp2, hq2, a1, a2, Held.run_loadVar_cell t _ w v ht hc, Held.run_loadVar_cell u _ w v' hu hc']
end Go.Proofs.Ytbippmbcgkicaaa.Sto
namespace Go.Proofs.Ytbippmbcgkicaaa.Held
open Go.RowKit
def wpAnyB (P : Program) (md : Region.Mode) (ops : Array Oper) (Q : Exit → Act → World → Prop) (T : World → Prop) (s : Nat) : Nat → Array Bool → Act → World → Prop
  | 0, listed, a, w => Region.ready md ops listed = [] ∧ Q .normal a w
  | fuel + 1, listed, a, w =>
    (Region.ready md ops listed = [] → Q .normal a w) ∧
    ∀ i ∈ Region.ready md ops listed, wpOp P ops Q i (fun a' w' => ((listed.setIfInBounds i true).getD s true = false → T w') ∧ wpAnyB P md ops Q T s fuel (listed.setIfInBounds i true) a' w') a w
section
variable {P : Program} {ops : Array Oper} {Q : Exit → Act → World → Prop} {md : Region.Mode} {T : World → Prop} {s : Nat}
theorem wpAny_of_bar : ∀ (fuel : Nat) (listed : Array Bool) (a : Act) (w : World), wpAnyB P md ops Q T s fuel listed a w → wpAny P md ops Q fuel listed a w
  | 0, _, _, _, h => h
  | fuel + 1, _, _, _, h => ⟨h.1, fun i hi => wpOp_mono (fun a' w' h' => wpAny_of_bar fuel _ a' w' h'.2) (h.2 i hi)⟩
theorem not_yet {listed : Array Bool} {j : Nat} {oj : Oper} (hj : j ∈ Region.ready md ops listed) (ho : ops[j]? = some oj) {e : Edge} (he : e ∈ oj.after) (hb : Region.binds md e = true) : listed.getD e.on true ≠ false := fun hx => by
  obtain ⟨_, o, h1, h2⟩ := mem_ready.1 hj
  obtain rfl : o = oj := by rw [h1] at ho; exact Option.some.inj ho
  have := h2 e he hb
  by_cases c : e.on < listed.size
  · simp [c] at hx this; exact absurd (this.symm.trans hx) (by simp)
  · simp [Array.getElem?_eq_none (Nat.le_of_not_lt c)] at this
structure Early (md : Region.Mode) (ops : Array Oper) (B : List Nat) (i : Nat) (oi : Oper) (listed : Array Bool) : Prop where
  ready : i ∈ Region.ready md ops listed
  free : ∀ j oj, ops[j]? = some oj → j ≠ i → listed.getD j true = false → (∀ e ∈ oj.after, Region.binds md e = true → e.on ≠ i) → oi.apart ops oj = true
  late : ∀ b ∈ B, listed.getD b true = false
def Waits (md : Region.Mode) (ops : Array Oper) (B : List Nat) (i : Nat) : Prop := i ∉ B ∧ ∀ b ∈ B, ∀ o, ops[b]? = some o → ∃ e ∈ o.after, Region.binds md e = true ∧ (e.on = i ∨ e.on ∈ B)
section
variable {B : List Nat} {i : Nat} {oi : Oper} {listed : Array Bool}
theorem Early.un (h : Early md ops B i oi listed) : listed.getD i true = false := (mem_ready.1 h.ready).1
theorem Early.waits (h : Early md ops B i oi listed) {j : Nat} {oj : Oper} (hj : j ∈ Region.ready md ops listed) (ho : ops[j]? = some oj) : ∀ e ∈ oj.after, Region.binds md e = true → e.on ≠ i :=
  fun e he hb heq => not_yet hj ho he hb (by rw [heq]; exact h.un)
theorem Early.out (h : Early md ops B i oi listed) (hw : Waits md ops B i) {j : Nat} (hj : j ∈ Region.ready md ops listed) : j ∉ B := fun hjB => by
  obtain ⟨_, oj, ho, _⟩ := mem_ready.1 hj
  obtain ⟨e, he, hb, hor⟩ := hw.2 j hjB oj ho
  rcases hor with h1 | h1
  · exact h.waits hj ho e he hb h1
  · exact not_yet hj ho he hb (h.late _ h1)
theorem Early.next (h : Early md ops B i oi listed) (hw : Waits md ops B i) {j : Nat} (hj : j ∈ Region.ready md ops listed) (hji : j ≠ i) : Early md ops B i oi (listed.setIfInBounds j true) where
  ready := ready_mono h.ready (Ne.symm hji)
  free k ok hk hki hun hno := h.free k ok hk hki (by
    by_cases e : j = k
    · exact e ▸ (mem_ready.1 hj).1
    · rwa [getD_set_ne true e] at hun) hno
  late b hb := by rw [getD_set_ne true (show ¬ j = b from fun e => h.out hw hj (by rw [e]; exact hb))]; exact h.late b hb
end
theorem wpAnyB_early {i : Nat} {oi : Oper} {v : Value} (hi : ops[i]? = some oi) (hsel : ∀ (j : Nat) (o : Oper) cs b, ops[j]? = some o → o.op ≠ .select cs b)
    (hQ : ∀ c a w, Q (.panic c) (a.put oi.dst v) w → Q (.panic c) a w) {B : List Nat} (hs : s ∈ B) (hw : Waits md ops B i) :
    ∀ (fuel : Nat) {listed : Array Bool} {a : Act} {w : World}, Early md ops B i oi listed → YieldsIf P ops T oi v a → T w →
      wpAnyB P md ops Q T s fuel (listed.setIfInBounds i true) (a.put oi.dst v) w → wpAnyB P md ops Q T s (fuel + 1) listed a w
  | fuel, listed, a, w, h, hy, hT, H => by
    refine ⟨fun h0 => absurd (h0 ▸ h.ready) (by simp), fun j hj => ?_⟩
    by_cases hji : j = i
    · exact hji ▸ hy.wpOp hi hT ⟨fun _ => hT, H⟩
    · match fuel, H with
      | 0, H => exact absurd (H.1 ▸ ready_mono hj hji) (by simp)
      | fuel + 1, H =>
        obtain ⟨hun, oj, ho, _⟩ := mem_ready.1 hj
        have step := wpOp_putIf ho (h.free j oj ho hji hun (h.waits hj ho)) (fun cs b => hsel i oi cs b hi) (fun cs b => hsel j oj cs b ho) hQ hy (H.2 j (ready_mono hj hji))
        have n := h.next hw hj hji
        refine wpOp_mono (fun a' w' k => ?_) step
        obtain ⟨k1, k2, k3⟩ := k
        rw [Array.setIfInBounds_comm _ _ (Ne.symm hji)] at k2 k3
        have hT' : T w' := k2 (by rw [getD_set_ne true (show ¬ i = s from fun e => hw.1 (by rw [e]; exact hs))]; exact n.late s hs)
        exact ⟨fun _ => hT', wpAnyB_early hi hsel hQ hs hw fuel n k1 hT' k3⟩
def waitsB (md : Region.Mode) (ops : Array Oper) (listed : Array Bool) (B : List Nat) (s i : Nat) : Bool :=
  B.contains s && !B.contains i && B.all fun b => !listed.getD b true && match ops[b]? with
    | some o => o.after.any fun e => Region.binds md e && (e.on == i || B.contains e.on)
    | none => false
theorem takeB (i : Nat) (d : Option Tmp) (B : List Nat) {oi : Oper} {v : Value} {fuel : Nat} {listed : Array Bool} {a : Act} {w : World} (hi : ops[i]? = some oi) (hd : oi.dst = d)
    (hs : Region.noSelect ops = true) (hf : Region.free md ops listed i = true) (hr : (Region.ready md ops listed).contains i = true) (hB : waitsB md ops listed B s i = true)
    (hQ : ∀ c a w, Q (.panic c) (a.put d v) w → Q (.panic c) a w) (hw : Region.wanted oi (yielded ops a.tmps) = true) (hy : ∀ w, T w → (execOp a.eval oi).run P w = .ok (.value v) w) (hT : T w)
    (h : wpAnyB P md ops Q T s fuel (listed.setIfInBounds i true) (a.put d v) w) : wpAnyB P md ops Q T s (fuel + 1) listed a w := by
  subst hd
  unfold waitsB at hB
  simp only [Bool.and_eq_true, List.contains_iff_mem, Bool.not_eq_true', List.all_eq_true] at hB
  obtain ⟨⟨h1, h2⟩, h3⟩ := hB
  have h2' : i ∉ B := fun hm => by rw [List.contains_iff_mem.2 hm] at h2; cases h2
  refine wpAnyB_early hi (Region.noSelect_spec hs) hQ h1 ⟨h2', fun b hb o ho => ?_⟩ fuel ⟨by simpa using hr, Region.free_spec hi hf, fun b hb => (h3 b hb).1⟩ (.inl ⟨hw, hy⟩) hT h
  have := (h3 b hb).2
  rw [ho] at this
  obtain ⟨k, hk, he⟩ := Array.any_eq_true.1 this
  simp only [Bool.and_eq_true, Bool.or_eq_true, beq_iff_eq, List.contains_iff_mem] at he
  exact ⟨o.after[k], Array.getElem_mem hk, he.1, he.2⟩
theorem oneB (i : Nat) {fuel : Nat} {listed : Array Bool} {a : Act} {w : World} (hr : Region.ready md ops listed = [i])
    (h : wpOp P ops Q i (fun a' w' => ((listed.setIfInBounds i true).getD s true = false → T w') ∧ wpAnyB P md ops Q T s fuel (listed.setIfInBounds i true) a' w') a w) : wpAnyB P md ops Q T s (fuel + 1) listed a w :=
  ⟨fun h0 => absurd (hr ▸ h0) (by simp), fun j hj => by rw [hr] at hj; obtain rfl := List.mem_singleton.1 hj; exact h⟩
theorem twoB (i j : Nat) {fuel : Nat} {listed : Array Bool} {a : Act} {w : World} (hr : Region.ready md ops listed = [i, j])
    (h1 : wpOp P ops Q i (fun a' w' => ((listed.setIfInBounds i true).getD s true = false → T w') ∧ wpAnyB P md ops Q T s fuel (listed.setIfInBounds i true) a' w') a w)
    (h2 : wpOp P ops Q j (fun a' w' => ((listed.setIfInBounds j true).getD s true = false → T w') ∧ wpAnyB P md ops Q T s fuel (listed.setIfInBounds j true) a' w') a w) : wpAnyB P md ops Q T s (fuel + 1) listed a w :=
  ⟨fun h0 => absurd (hr ▸ h0) (by simp), fun k hk => by
    rw [hr] at hk
    rcases List.mem_cons.1 hk with rfl | hk
    · exact h1
    · obtain rfl := List.mem_singleton.1 hk
      exact h2⟩
theorem doneB {listed : Array Bool} {a : Act} {w : World} (hr : Region.ready md ops listed = []) (h : Q .normal a w) : ∀ fuel, wpAnyB P md ops Q T s fuel listed a w
  | 0 => ⟨hr, h⟩
  | _ + 1 => ⟨fun _ => h, by rw [hr]; simp⟩
theorem wp_region_bar {id : Nat} {a : Act} {w : World} (hm : P.follows .mixedOrders = true)
    (h : wpAnyB P .any ops Q T s ops.size (Array.replicate ops.size false) a { w with drawn := w.drawn + 1 }) : (Code.region id ops true).wp P Q a w :=
  wp_region_any hm (wpAny_of_bar _ _ _ _ h)
theorem wpIn_region_barR {n : Nat} {r : Option Nat} {F : Fence} (hF : F = wideR r) {id : Nat} {a : Act} {w : World} (hm : P.follows .mixedOrders = true) (hd : noDefer ops = true) (hq : ∀ a w, ¬ Q .outgrown a w)
    (h : wpAnyB P .any ops Q T s ops.size (Array.replicate ops.size false) a { w with drawn := w.drawn + 1 }) : (Code.region id ops true).wpIn F n P Q a w := by
  subst hF
  exact wpIn_region_any hm (anyIn_of_any hd hq _ _ _ _ (wpAny_of_bar _ _ _ _ h))
end
end Go.Proofs.Ytbippmbcgkicaaa.Held
namespace Go.Proofs.Ytbippmbcgkicaaa.Held
open Go.RowKit
section
variable {P : Program} {ops : Array Oper} {Q : Exit → Act → World → Prop} {md : Region.Mode} {T : World → Prop} {s : Nat}
theorem wpAnyB_alone {i : Nat} {oi : Oper} {v : Value} (hi : ops[i]? = some oi) (hsel : ∀ (j : Nat) (o : Oper) cs b, ops[j]? = some o → o.op ≠ .select cs b)
    (hQ : ∀ c a w, Q (.panic c) (a.put oi.dst v) w → Q (.panic c) a w) (hs : i ≠ s) :
    ∀ (fuel : Nat) {listed : Array Bool} {a : Act} {w : World}, Early md ops [] i oi listed → YieldsIf P ops (fun _ => True) oi v a → (listed.getD s true = false → T w) →
      wpAnyB P md ops Q T s fuel (listed.setIfInBounds i true) (a.put oi.dst v) w → wpAnyB P md ops Q T s (fuel + 1) listed a w
  | fuel, listed, a, w, h, hy, hT, H => by
    refine ⟨fun h0 => absurd (h0 ▸ h.ready) (by simp), fun j hj => ?_⟩
    by_cases hji : j = i
    · refine hji ▸ hy.wpOp hi trivial ⟨fun e => hT (by rwa [getD_set_ne true hs] at e), H⟩
    · match fuel, H with
      | 0, H => exact absurd (H.1 ▸ ready_mono hj hji) (by simp)
      | fuel + 1, H =>
        obtain ⟨hun, oj, ho, _⟩ := mem_ready.1 hj
        have step := wpOp_putIf ho (h.free j oj ho hji hun (h.waits hj ho)) (fun cs b => hsel i oi cs b hi) (fun cs b => hsel j oj cs b ho) hQ hy (H.2 j (ready_mono hj hji))
        have n := h.next ⟨by simp, fun b hb => by cases hb⟩ hj hji
        refine wpOp_mono (fun a' w' k => ?_) step
        obtain ⟨k1, k2, k3⟩ := k
        rw [Array.setIfInBounds_comm _ _ (Ne.symm hji)] at k2 k3
        have hT' : (listed.setIfInBounds j true).getD s true = false → T w' := fun e => k2 (by rw [getD_set_ne true hs]; exact e)
        exact ⟨hT', wpAnyB_alone hi hsel hQ hs fuel n k1 hT' k3⟩
theorem takeA (i : Nat) (d : Option Tmp) {oi : Oper} {v : Value} {fuel : Nat} {listed : Array Bool} {a : Act} {w : World} (hi : ops[i]? = some oi) (hd : oi.dst = d)
    (hs : Region.noSelect ops = true) (hf : Region.free md ops listed i = true) (hr : (Region.ready md ops listed).contains i = true) (hne : i ≠ s)
    (hQ : ∀ c a w, Q (.panic c) (a.put d v) w → Q (.panic c) a w) (hw : Region.wanted oi (yielded ops a.tmps) = true) (hy : ∀ w, True → (execOp a.eval oi).run P w = .ok (.value v) w) (hT : listed.getD s true = false → T w)
    (h : wpAnyB P md ops Q T s fuel (listed.setIfInBounds i true) (a.put d v) w) : wpAnyB P md ops Q T s (fuel + 1) listed a w := by
  subst hd
  exact wpAnyB_alone hi (Region.noSelect_spec hs) hQ hne fuel ⟨by simpa using hr, Region.free_spec hi hf, fun b hb => by cases hb⟩ (.inl ⟨hw, hy⟩) hT h
end
end Go.Proofs.Ytbippmbcgkicaaa.Held
namespace Go.Proofs.Ytbippmbcgkicaaa.Sto
open Go.RowKit Go.Shelf Go.Proofs.Ytbippmbcgkicaaa Mem Held Sl
section
variable {α : Type} {k : St α} {w : World}
theorem own_setL {e : TypeId} {base g n cap i : Nat} {xs : List α} (f : α) (hown : OwnL k e w base (.slice (some ⟨g, 0, none⟩) n cap) xs) (hi : i < xs.length) :
    w.there g (i * k.s) (k.cells f).toArray.size ∧ OwnL k e (w.setCells g (i * k.s) (k.cells f).toArray.toList) base (.slice (some ⟨g, 0, none⟩) n cap) (xs.set i f) := by
  rcases hown.2 with ⟨e', _⟩ | ⟨g', cap', cur, e', hb, hg, hnc, hcm, hcs, ht⟩
  · cases e'
  · injection e' with e1 e2 e3
    injection e1 with e1
    injection e1 with e1
    subst e1
    subst e3
    have hle : (i + 1) * k.s ≤ cap * k.s := Nat.mul_le_mul_right _ (by omega)
    have hle2 : (i + 1) * k.s ≤ xs.length * k.s := Nat.mul_le_mul_right _ (by omega)
    rw [Nat.add_mul, Nat.one_mul] at hle hle2
    have hth : w.there g (i * k.s) (k.cells f).toArray.size := fun j hj => by
      have hj' : j < k.s := by rw [List.size_toArray, k.len] at hj; exact hj
      refine ⟨?_, by simp [World.frozen?, hg]⟩
      rw [cell_of_row w g _ _ _ (0, 0) hg, Array.getElem?_eq_getElem (by omega)]
      rfl
    obtain ⟨cur', h1, h2, h3⟩ := heap_setCells (k.cells f) (i * k.s) w cur hg (by rw [k.len]; omega)
    refine ⟨hth, ?_⟩
    refine ⟨flat_length k _, .inr ⟨g, cap, cur', by rw [List.length_set]; exact congrArg (fun n => Value.slice (some ⟨g, 0, none⟩) n cap) e2, hb, h1, by rw [List.length_set]; exact hnc, hcm, by rw [h2, hcs], ?_⟩⟩
    rw [List.length_set, h3, flat_set xs i f hi, ← ht, k.len]
    have hcl : cur.toList.length = cap * k.s := by simpa using hcs
    have hl : xs.length * k.s ≤ cur.toList.length := by rw [hcl]; exact Nat.mul_le_mul_right _ hnc
    apply List.ext_getElem?
    intro j
    have hc0 : (k.cells f).length = k.s := k.len f
    have ha : (cur.toList.take (i * k.s)).length = i * k.s := by rw [List.length_take]; omega
    have ha2 : ((cur.toList.take (xs.length * k.s)).take (i * k.s)).length = i * k.s := by rw [List.length_take, List.length_take]; omega
    rw [List.getElem?_take]
    simp only [List.append_assoc, List.getElem?_append, ha, ha2, hc0, List.getElem?_take, List.getElem?_drop]
    by_cases hj : j < xs.length * k.s
    · rw [if_pos hj]
      by_cases h4 : j < i * k.s
      · rw [if_pos h4, if_pos h4, if_pos h4, if_pos h4, if_pos hj]
      · rw [if_neg h4, if_neg h4]
        by_cases h5 : j - i * k.s < k.s
        · rw [if_pos h5, if_pos h5]
        · rw [if_neg h5, if_neg h5, if_pos (by omega)]
    · rw [if_neg hj, if_neg (by omega), if_neg (by omega), if_neg (by omega)]
theorem own_range {e : TypeId} {base g n cap i : Nat} {xs : List α} (hown : OwnL k e w base (.slice (some ⟨g, 0, none⟩) n cap) xs) (hi : i < xs.length) : w.rangeAt g (0 + i * k.s) (k.cells (xs.getD i k.d)) := by
  rcases hown.2 with ⟨e', _⟩ | ⟨g', cap', cur, e', hb, hg, hnc, hcm, hcs, ht⟩
  · cases e'
  · injection e' with e1 e2 e3
    injection e1 with e1
    injection e1 with e1
    subst e1
    intro j v hv
    have hj : j < k.s := by have := (List.getElem?_eq_some_iff.1 hv).1; rwa [k.len] at this
    have hle : (i + 1) * k.s ≤ xs.length * k.s := Nat.mul_le_mul_right _ (by omega)
    rw [Nat.add_mul, Nat.one_mul] at hle
    rw [cell_of_row w g _ _ _ (0, 0) hg]
    have h1 := congrArg (fun l => l[i * k.s + j]?) ht
    simp only [List.getElem?_take, show i * k.s + j < xs.length * k.s by omega, if_true] at h1
    rw [flat_at xs i j hj hi, hv] at h1
    rw [show 0 + i * k.s + j = i * k.s + j by omega, ← h1]
    simp
theorem own_some {e : TypeId} {base n c : Nat} {A : Option Addr} {xs : List α} (hown : OwnL k e w base (.slice A n c) xs) (h0 : 0 < xs.length) : ∃ g, A = some ⟨g, 0, none⟩ ∧ n = xs.length := by
  rcases hown.2 with ⟨e', hn⟩ | ⟨g, cap, cur, e', _⟩
  · omega
  · injection e' with e1 e2 e3
    exact ⟨g, e1, e2⟩
end
section
variable {P : Program} {ops : Array Oper} {Q : Exit → Act → World → Prop} {md : Region.Mode} {T : World → Prop} {s : Nat}
theorem oneB_v (i : Nat) (d : Option Tmp) {o : Oper} {v : Value} {fuel : Nat} {listed : Array Bool} {a : Act} {w : World} (hr : Region.ready md ops listed = [i]) (hi : ops[i]? = some o) (hd : o.dst = d) (hw : Region.wanted o (yielded ops a.tmps) = true) (hy : ∀ w, True → (execOp a.eval o).run P w = .ok (.value v) w) (hs : (listed.setIfInBounds i true).getD s true = true)
    (h : Held.wpAnyB P md ops Q T s fuel (listed.setIfInBounds i true) (a.put d v) w) : Held.wpAnyB P md ops Q T s (fuel + 1) listed a w := by
  subst hd
  exact Held.oneB i hr (YieldsIf.wpOp (S := fun _ => True) hi (.inl ⟨hw, hy⟩) trivial ⟨(fun h => by rw [hs] at h; cases h), h⟩)
end
section
variable {α : Type} {k : St α} {P : Program} {ops : Array Oper} {o : Oper} {a : Act} {w : World} {Q : Exit → Act → World → Prop}
theorem run_append_lst0 (w : World) (ts ty e : TypeId) (hu : P.underlying ts = some (.slice e)) (z : Value) (bytes : Nat) (hinfo : (P.info? e).map (fun i => (i.zero, i.size, i.bytes)) = some (some z, k.s, bytes)) (hz : z.cells.size = k.s)
    (base B m c : Nat) (A : Option Addr) (v : Value) (xs ys : List α) (hown : OwnL k e w base v xs) (hq : Lst k w B A m ys) (hm : xs.length + m ≤ 1048576) (hby : bytes ≤ 1048576) (hbase : base ≤ w.heap.size) :
    ∃ v' w', (Builtin.append_ #[ts, ts] ty #[v, .slice A m c]).run P w = .ok v' w' ∧ OwnL k e w' base v' (xs ++ ys) ∧ w.grownBy w' v.ownBlock ∧ (v'.ownBlock = v.ownBlock ∨ v'.ownBlock = some w.heap.size) := by
  obtain ⟨ie, hie, hz0, hsz, hb⟩ := info_parts hinfo
  rcases Nat.eq_zero_or_pos m with h0 | h0
  · subst h0
    have e0 : ys = [] := List.eq_nil_of_length_eq_zero hq.1
    subst e0
    obtain ⟨A', c', rfl, hle, _⟩ := OwnL.form hown
    exact ⟨_, w, Mg.run_append_zero ts e hu ie hie w A' A _ c' c hle, by rw [List.append_nil]; exact hown, World.grownBy.refl w _, .inl rfl⟩
  · obtain ⟨g, off, rfl, _, hc⟩ := hq.2.2 h0
    obtain ⟨v', w', h1, h2, h3, _, h5⟩ := run_append_own_at (P := P) w base ts ty e ie z k.s bytes hu hie hz0 hsz hb hz k.pos v xs.length (flat k xs) hown ⟨g, off, none⟩ m c (flat k ys) (by rw [Sl.flat_length, hq.1])
      (fun j u hj => by rw [show (Addr.mk g off none).add j = ⟨g, off + j, none⟩ by (unfold Addr.add; split <;> simp_all)]; exact hc j u hj) (flat_cell ys) (by unfold maxLen; omega) (Nat.le_trans (Nat.mul_le_mul hm hby) (by omega)) hbase
    refine ⟨v', w', h1, ?_, h3, h5⟩
    unfold OwnL
    rw [Sl.flat_append, List.length_append, hq.1]
    exact h2
theorem op_append_lst0 (i : Nat) (d : Option Tmp) {K : Act → World → Prop} {s x : Operand} (ts e : TypeId) (hi : ops[i]? = some o) (hd : o.dst = d) (hw : Region.wanted o (yielded ops a.tmps) = true)
    (ho : o.op = .call { callee := .builtin .append, args := #[s, x], argTypes := #[ts, ts] }) (hu : P.underlying ts = some (.slice e)) (z : Value) (bytes : Nat) (hinfo : (P.info? e).map (fun i => (i.zero, i.size, i.bytes)) = some (some z, k.s, bytes)) (hz : z.cells.size = k.s)
    (base B m c : Nat) (A : Option Addr) (v : Value) (xs ys : List α) (hs : a.eval s = v) (hx : a.eval x = .slice A m c) (hown : OwnL k e w base v xs) (hq : Lst k w B A m ys) (hm : xs.length + m ≤ 1048576) (hby : bytes ≤ 1048576) (hbase : base ≤ w.heap.size)
    (h : ∀ v' w', OwnL k e w' base v' (xs ++ ys) → w.grownBy w' v.ownBlock → (v'.ownBlock = v.ownBlock ∨ v'.ownBlock = some w.heap.size) → K (a.put d v') w') : wpOp P ops Q i K a w := by
  subst hd
  obtain ⟨v', w', h1, h2, h3, h4⟩ := run_append_lst0 (P := P) w ts o.type e hu z bytes hinfo hz base B m c A v xs ys hown hq hm hby hbase
  refine Held.op_wp i hi hw ?_
  exact Lib.wp_append_run w s x ts ts ho _ _ hs hx _ w' h1 (h v' w' h2 h3 h4)
end
section
variable {α : Type} {k : St α} {P : Program} {ops : Array Oper} {rest : List Oper} {o : Oper} {a : Act} {w : World} {Q : Exit → Act → World → Prop}
theorem op_store_ownL (i : Nat) (d : Option Tmp) {K : Act → World → Prop} (e : TypeId) {x y : Operand} (base g n cap off j : Nat) (xs : List α) (f : α) (hi : ops[i]? = some o) (hd : o.dst = d) (hw : Region.wanted o (yielded ops a.tmps) = true)
    (ho : o.op = .store e x y) (hsz : (P.info? e).map (·.size) = some k.s) (hx : a.eval x = .pointer (some ⟨g, off, none⟩)) (hoff : off = j * k.s) (hy : a.eval y = .agg (k.cells f).toArray) (hown : OwnL k e w base (.slice (some ⟨g, 0, none⟩) n cap) xs) (hj : j < xs.length)
    (h : ∀ w', OwnL k e w' base (.slice (some ⟨g, 0, none⟩) n cap) (xs.set j f) → w.grownBy w' (some g) → K (a.put d undef) w') : wpOp P ops Q i K a w := by
  subst hd
  subst hoff
  refine op_wp i hi hw ?_
  obtain ⟨h1, h2⟩ := own_setL f hown hj
  exact wp_store_mid e x y ho g (j * k.s) (k.cells f).toArray hx hy h1 (by rw [hsz, List.size_toArray, k.len]) (all_oneCell_toArray (k.one f)) (h _ h2 (grown_setCells _ _ _ _))
theorem wpList_append_lst0 (hw : Region.wanted o (yielded ops a.tmps) = true) (s x : Operand) (ts e : TypeId) (ho : o.op = .call { callee := .builtin .append, args := #[s, x], argTypes := #[ts, ts] }) (hu : P.underlying ts = some (.slice e)) (z : Value) (bytes : Nat) (hinfo : (P.info? e).map (fun i => (i.zero, i.size, i.bytes)) = some (some z, k.s, bytes)) (hz : z.cells.size = k.s)
    (base B m c : Nat) (A : Option Addr) (v : Value) (xs ys : List α) (hs : a.eval s = v) (hx : a.eval x = .slice A m c) (hown : OwnL k e w base v xs) (hq : Lst k w B A m ys) (hm : xs.length + m ≤ 1048576) (hby : bytes ≤ 1048576) (hbase : base ≤ w.heap.size)
    (h : ∀ v' w', OwnL k e w' base v' (xs ++ ys) → w.grownBy w' v.ownBlock → (v'.ownBlock = v.ownBlock ∨ v'.ownBlock = some w.heap.size) → wpList P ops Q rest (a.put o.dst v') w') : wpList P ops Q (o :: rest) a w := by
  obtain ⟨v', w', h1, h2, h3, h4⟩ := run_append_lst0 (P := P) w ts o.type e hu z bytes hinfo hz base B m c A v xs ys hown hq hm hby hbase
  refine wpList_step fun _ hK => ?_
  rw [if_pos hw]
  unfold Oper.wp execOp
  simp only [ho, resolve, invoke, builtin, Sem.run_bind, Sem.run_pure, Result.andThen_ok, List.map_toArray, List.map_cons, List.map_nil, hs, hx, h1]
  exact hK _ _ (h v' w' h2 h3 h4)
theorem wpList_build_lst1 (hgd : o.guard = none) (ts e : TypeId) (n : Nat) (parts : Array (Nat × Operand)) (ho : o.op = .buildSlice ts n parts) (hu : P.underlying ts = some (.slice e)) (z : Value) (bytes : Nat) (hinfo : (P.info? e).map (fun i => (i.zero, i.size, i.bytes)) = some (some z, k.s, bytes)) (h1 : k.s = 1)
    (xs : List α) (hn : xs.length = n) (hp : (parts.map fun (i, x) => (i, a.eval x)).toList = ((flat k xs).zipIdx 0).map fun x => (x.2, x.1)) (hc : ∀ v ∈ flat k xs, v.cells = #[v]) (h0 : 0 < n) (h24 : n ≤ 16777216)
    (h : ∀ w', Blk w' w.heap.size e (flat k xs).toArray → w.grownBy w' none → Hid (w'.heap.size = w.heap.size + 1) → wpList P ops Q rest (a.put o.dst (.slice (some ⟨w.heap.size, 0, none⟩) n n)) w') : wpList P ops Q (o :: rest) a w := by
  obtain ⟨ie, hie, hz0, hs, hb⟩ := info_parts hinfo
  have hl : (flat k xs).length = n := by rw [Sl.flat_length, hn, h1, Nat.mul_one]
  refine Go.wpList_buildSlice hgd ts e n parts ho (flat k xs).toArray ie z hu hie hz0 (by rw [hs, h1]; omega) (by rw [hs, h1]; omega) ?_ (h _ (heap_alloc_new w _) (World.grownBy_alloc w _ none) (Lib.hid (by simp)))
  rw [hp, hs, h1]
  exact Go.Great.fill_flat (flat k xs) _ hc (by simp [hl])
end
section
variable {P : Program} {S : World → Prop} {ρ : Operand → Value} {o : Oper}
theorem y_subI (a b : Int) {t ty : TypeId} {x y : Operand} {k : IntKind} {r : Int} (ho : o.op = .binOp .sub t x y ty) (hx : ρ x = .int k a) (hy : ρ y = .int k b) (hr : k.wrap (a - b) = r) : ∀ w, S w → (execOp ρ o).run P w = .ok (.value (.int k r)) w := Held.y_int ho hx hy (Held.run_sub t k hr)
theorem y_addI (a b : Int) {t ty : TypeId} {x y : Operand} {k : IntKind} {r : Int} (ho : o.op = .binOp .add t x y ty) (hx : ρ x = .int k a) (hy : ρ y = .int k b) (hr : k.wrap (a + b) = r) : ∀ w, S w → (execOp ρ o).run P w = .ok (.value (.int k r)) w := Held.y_int ho hx hy (Held.run_add t k hr)
theorem y_geqI (a b : Int) {t ty : TypeId} {x y : Operand} {k : IntKind} {r : Bool} (ho : o.op = .binOp .geq t x y ty) (hx : ρ x = .int k a) (hy : ρ y = .int k b) (hr : decide (b ≤ a) = r) : ∀ w, S w → (execOp ρ o).run P w = .ok (.value (.bool r)) w :=
  Held.y_bin ho hx hy (fun w => by simp [eqGuard]) (fun w => by subst hr; simp [binOp, Op.intCmp])
end
section
variable {α β : Type} {k : St α} {k' : St β} {w : World}
theorem own_apart {t t' : TypeId} {b b' : Nat} {v v' : Value} {xs : List α} {ys : List β} (h : OwnL k t w b v xs) (h' : OwnL k' t' w b' v' ys) (ht : t ≠ t') {g : Nat} (e : v.ownBlock = some g) : v'.ownBlock ≠ some g := fun e' => by
  rcases h.2 with ⟨rfl, _⟩ | ⟨g1, cap, cur, rfl, _, hg, _⟩
  · cases e
  · rcases h'.2 with ⟨rfl, _⟩ | ⟨g2, cap', cur', rfl, _, hg', _⟩
    · cases e'
    · have e : some g1 = some g := e
      have e' : some g2 = some g := e'
      injection e with e
      injection e' with e'
      subst e
      subst e'
      rw [hg] at hg'
      injection hg' with hg'
      injection hg' with _ hg'
      exact ht hg'
theorem own_apart' {t t' : TypeId} {b b' : Nat} {v v' : Value} {xs : List α} {ys : List β} (h : OwnL k t w b v xs) (h' : OwnL k' t' w b' v' ys) (ht : t ≠ t') : v.ownBlock = none ∨ v.ownBlock ≠ v'.ownBlock := by
  cases e : v.ownBlock with
  | none => exact .inl rfl
  | some g => exact .inr fun e2 => own_apart h h' ht e e2.symm
end
end Go.Proofs.Ytbippmbcgkicaaa.Sto
