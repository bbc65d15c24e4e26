/-
  slices.SortFunc at pairs by their keys: the list holds its pairs in order.
  A list of pairs of the call's own: one value stored, in a region or outside one; what a range over records keeps of such a list in a variable: no program here but types.
  Package spec's folded, by its contract: each key's values as one, the keys in order.
  Package spec's Run, by its contract, where nothing is refused.
  The first line of stage 11's laws, by its contract.
-/
import Derived.Test.YtjhpbpoldedldaaB5
import Derived.Test.YtjhpbpoldedldaaB6
import Derived.Test.YtjhpbpoldedldaaB3
import Derived.Test.YtjhpbpoldedldaaB1
set_option linter.unusedVariables false
namespace Go.Proofs.Ytjhpbpoldedldaa.Sp
open Go.RowKit Go.Shelf Go.Proofs.Ytjhpbpoldedldaa Mem Held Rc Rs Sl Vm
def cfP (x y : Int × Int) : Int := Lib.compareInt x.1 y.1
theorem ltP (x y : Int × Int) : ltOf cfP x y = decide (x.1 < y.1) := by
  unfold ltOf cfP Lib.compareInt
  by_cases h1 : x.1 < y.1
  · simp [h1]
  · by_cases h2 : y.1 < x.1 <;> simp [h1, h2]
theorem swoP : Sort.SWO (ltOf cfP) where
  irrefl x := by rw [ltP]; simp
  trans x y z h1 h2 := by rw [ltP] at *; simp at *; omega
  ntrans x y z h1 h2 := by rw [ltP] at *; simp at *; omega
def sortP (l : List (Int × Int)) : List (Int × Int) := (Sort.pdq (ltOf cfP) l.toArray 0 l.toArray.size (Lib.bitLen l.toArray.size) true true).toList
theorem sortP_says (l : List (Int × Int)) : (sortP l).Perm l ∧ ∀ i j, i < j → j < l.length → ¬ ((sortP l).getD j (0, 0)).1 < ((sortP l).getD i (0, 0)).1 := by
  have h := Sort.pdq_sorts (ltOf cfP) swoP l.toArray 0 l.toArray.size (Lib.bitLen l.toArray.size) true true (Nat.zero_le _) (Nat.le_refl _) (Or.inl rfl)
  unfold sortP
  generalize Sort.pdq (ltOf cfP) l.toArray 0 l.toArray.size (Lib.bitLen l.toArray.size) true true = D at h ⊢
  obtain ⟨⟨hs, _, hp⟩, h2⟩ := h
  have e1 : ∀ a : Array (Int × Int), a.extract 0 a.size = a := fun a => by simp
  refine ⟨?_, fun i j hij hj => ?_⟩
  · rw [e1] at hp
    rw [← hs, e1] at hp
    exact hp
  · have hl : l.toArray.size = l.length := by simp
    have := h2 i j (Nat.zero_le _) hij (by rw [hl]; exact hj)
    rw [ltP, decide_eq_false_iff_not] at this
    have hj' : j < D.size := by rw [hs, hl]; exact hj
    have g : ∀ q, q < D.size → D.toList.getD q (0, 0) = D[q]! := fun q hq => by
      rw [List.getD_eq_getElem?_getD, getElem!_pos D q hq]
      simp [hq]
    rw [g j hj', g i (by omega)]
    exact this
theorem sortP_length (l : List (Int × Int)) : (sortP l).length = l.length := (sortP_says l).1.length_eq
theorem sortP_mem {l : List (Int × Int)} {x : Int × Int} : x ∈ sortP l ↔ x ∈ l := (sortP_says l).1.mem_iff
set_option maxHeartbeats 1000000 in
theorem compare_any (x y : Int) (w : World) : Calls Try.prog 31 #[.int .i64 x, .int .i64 y] w fun e w' => e = .returned (.int .i64 (Lib.compareInt x y)) ∧ w' = w := by
  have hn : ∀ (z : Int) (W : World), Calls Try.prog 46 #[.int .i64 z] W fun e w' => e = .returned (.bool false) ∧ W = w' := fun z W => by
    go_enter Try.func46, Try.ntmps46
    go_wp2_with fail
    go_ret
    exact ⟨rfl, rfl⟩
  go_enter Try.func31, Try.ntmps31
  by_cases h1 : x < y
  · have HC : Hid (Lib.compareInt x y = -1) := Lib.hid (by simp [Lib.compareInt, h1])
    go_wp2_with (go_at_call 46; refine (hn _ _).mono ?_; rintro e w' ⟨rfl, rfl⟩)
    go_ret
    exact ⟨Mem.ret_int HC.out.symm, rfl⟩
  · by_cases h2 : x > y
    · have HC : Hid (Lib.compareInt x y = 1) := Lib.hid (by simp [Lib.compareInt, h1, h2])
      go_wp2_with (go_at_call 46; refine (hn _ _).mono ?_; rintro e w' ⟨rfl, rfl⟩)
      go_ret
      exact ⟨Mem.ret_int HC.out.symm, rfl⟩
    · have HC : Hid (Lib.compareInt x y = 0) := Lib.hid (by simp [Lib.compareInt, h1, h2])
      go_wp2_with (go_at_call 46; refine (hn _ _).mono ?_; rintro e w' ⟨rfl, rfl⟩)
      go_ret
      exact ⟨Mem.ret_int HC.out.symm, rfl⟩
set_option maxHeartbeats 1000000 in
theorem byKey_any (x y : Int × Int) (W : World) : Calls Try.prog 23 #[.agg #[.int .i64 x.1, .int .i64 x.2], .agg #[.int .i64 y.1, .int .i64 y.2]] W fun e w' => e = .returned (.int .i64 (cfP x y)) ∧ ∃ q os', w' = Sort.grow (W.drewN q) os' := by
  have hcon := fun W' => compare_any x.1 y.1 W'
  unfold cfP
  generalize Lib.compareInt x.1 y.1 = r at hcon ⊢
  go_enter Try.func23, Try.ntmps23
  go_wp2_with (go_at_call 31; refine (hcon _).mono ?_; rintro e w' ⟨rfl, rfl⟩)
  go_ret
  exact ⟨rfl, 0, _, by rw [Sort.alloc_eq_grow, Sort.alloc_eq_grow, Sort.grow_grow]; rfl⟩
theorem byKey_lays (blk off size : Nat) (w : World) : CmpLays Try.prog 23 #[] pcells 2 cfP blk off size w := fun _ _ _ _ x y => byKey_any x y _
theorem flatK_eq (xs : List (Int × Int)) : Sort.flatK pcells 2 xs.toArray = (Sl.flat kP xs).toArray := by
  have hz : (Sl.flat kP xs).length = xs.length * 2 := Sl.flat_length kP xs
  refine Sort.ext_get! (by simp [hz]) fun t ht => ?_
  have ht : t < xs.length * 2 := by simpa using ht
  rw [Sort.get_flatK _ _ _ t (by simpa using ht)]
  have hq : t / 2 < xs.length := by omega
  have hm : t % 2 < 2 := by omega
  have h := Sl.flat_at (k := kP) xs (t / 2) (t % 2) hm hq
  have e : t / 2 * kP.s + t % 2 = t := by show t / 2 * 2 + t % 2 = t; omega
  rw [e] at h
  have h1 : (Sl.flat kP xs).toArray[t]! = ((Sl.flat kP xs)[t]?).getD default := by
    rw [getElem!_pos _ t (by simp [hz]; exact ht), List.getElem_toArray, List.getElem?_eq_getElem (by rw [hz]; exact ht)]
    rfl
  have h2 : xs.toArray[t / 2]! = xs.getD (t / 2) (0, 0) := by
    rw [getElem!_pos _ _ (by simpa using hq), List.getElem_toArray, List.getD_eq_getElem?_getD, List.getElem?_eq_getElem hq]
    rfl
  rw [h1, h, h2]
  show (pcells (xs.getD (t / 2) (0, 0)))[t % 2]! = ((pcells (xs.getD (t / 2) (0, 0)))[t % 2]?).getD default
  rw [List.getElem!_eq_getElem?_getD]
theorem flat_cut (xs : List (Int × Int)) {cur : Array Value} {n : Nat} (h : cur.toList.take n = Sl.flat kP xs) (hn : n = xs.length * 2) (hc : n ≤ cur.size) (ys : List (Int × Int)) (hy : ys.length = xs.length) :
    (Sort.putCells id 0 (Sort.flatK pcells 2 ys.toArray) cur).toList.take n = Sl.flat kP ys := by
  rw [flatK_eq]
  have hz : (Sl.flat kP ys).length = n := by rw [hn, ← hy]; exact Sl.flat_length kP ys
  apply List.ext_getElem?
  intro q
  by_cases hq : q < n
  · rw [List.getElem?_take, if_pos hq]
    have h1 : q < cur.size := by omega
    simp only [Sort.putCells, Array.getElem?_toList, Array.getElem?_mapIdx, Array.getElem?_eq_getElem h1, Option.map_some, Nat.zero_le, true_and, Nat.zero_add, List.size_toArray, hz, hq, if_true, Nat.sub_zero, id]
    rw [getElem!_pos _ q (by simp [hz]; exact hq), List.getElem_toArray, List.getElem?_eq_getElem (by rw [hz]; exact hq)]
  · rw [List.getElem?_eq_none (by simp; omega), List.getElem?_eq_none (by omega)]
set_option maxHeartbeats 1000000 in
theorem sort_own (B g cap : Nat) (xs : List (Int × Int)) (w : World) (hl : xs.length ≤ 1048576) (hown : OwnL kP 36 w B (.slice (some ⟨g, 0, none⟩) xs.length cap) xs) :
    Calls Try.prog 22 #[.slice (some ⟨g, 0, none⟩) xs.length cap, .func (.func 23) #[] #[]] w fun e w' => e = .returned (.tuple #[]) ∧ OwnL kP 36 w' B (.slice (some ⟨g, 0, none⟩) xs.length cap) (sortP xs) ∧ w.grownBy w' (some g) := by
  rcases hown.2 with ⟨e, _⟩ | ⟨g', cap', cur, e, hb, hg, hnc, hcm, hcs, ht⟩
  · cases e
  · injection e with e1 e2 e3
    injection e1 with e1
    injection e1 with e1
    subst e1
    subst e3
    have hgl : g < w.heap.size := (Array.getElem?_eq_some_iff.1 hg).1
    have hcs : cur.size = cap * 2 := hcs
    have ht : cur.toList.take (xs.length * 2) = Sl.flat kP xs := ht
    have hH : Sort.HoldsK pcells 2 w g 0 xs.toArray := fun j hj => by
      rw [flatK_eq] at hj ⊢
      have hz : (Sl.flat kP xs).length = xs.length * 2 := Sl.flat_length kP xs
      have hj2 : j < xs.length * 2 := by simpa [hz] using hj
      refine ⟨?_, by simp [World.frozen?, hg]⟩
      rw [Nat.zero_add, cell_of_row w g j _ _ (0, 0) hg, getElem!_pos _ j hj, List.getElem_toArray]
      have := congrArg (fun l => l[j]?) ht
      simp only [List.getElem?_take, hj2, if_true, Array.getElem?_toList] at this
      rw [this, List.getElem?_eq_getElem (by rw [hz]; exact hj2)]
      rfl
    have eg : ∀ args w, (callFunc 23 args).run Try.prog w = .ok (.enter 23 args) w := enters_of Try.func23 (by kernel_rfl) rfl
    have hcon := AnyQ.slices_SortFunc_eq Try.sortP 2 Try.isAgg36 Try.sizeOf36 pcells (fun _ => rfl) pcells_one cfP swoP 23 #[] g 0 cap xs.toArray w eg (byKey_lays g 0 xs.toArray.size w) hH hgl (by simp; omega)
    change Calls Try.prog 22 _ _ _ at hcon
    rw [List.size_toArray] at hcon
    refine hcon.mono ?_
    rintro e w' ⟨rfl, n, os, rfl⟩
    have hsp : Sort.pdq (ltOf cfP) xs.toArray 0 xs.length (Lib.bitLen xs.length) true true = (sortP xs).toArray := by simp [sortP]
    rw [hsp]
    have hlen := sortP_length xs
    have hh : ∀ q, q < w.heap.size → (sortWorldK pcells 2 w g 0 n (sortP xs).toArray os).heap[q]? = (w.heap.modify g (Sort.onCells (Sort.putCells id 0 (Sort.flatK pcells 2 (sortP xs).toArray))))[q]? := fun q hq => by
      simp only [sortWorldK, Sort.grow, Sort.putRowK, Sort.putRow, Sort.mapBlock, Sort.ahead]
      rw [Array.getElem?_append_left (by simpa using hq)]
    refine ⟨rfl, ⟨Sl.flat_length kP _, .inr ⟨g, cap, Sort.putCells id 0 (Sort.flatK pcells 2 (sortP xs).toArray) cur, by rw [hlen], hb, ?_, by rw [hlen]; exact hnc, hcm, by simp [Sort.putCells, hcs]; rfl, ?_⟩⟩, ⟨rfl, rfl, rfl, ?_, ?_⟩⟩
    · rw [hh g hgl, Array.getElem?_modify, if_pos rfl, hg]
      rfl
    · rw [hlen]
      exact flat_cut xs ht rfl (by rw [hcs]; omega) _ hlen
    · simp [sortWorldK, Sort.grow, Sort.putRowK, Sort.putRow, Sort.mapBlock, Sort.ahead]
    · intro q hq hne
      rw [hh q hq, Array.getElem?_modify, if_neg (fun e => hne (by rw [e]))]
theorem sort_nil (w : World) : Calls Try.prog 22 #[.slice none 0 0, .func (.func 23) #[] #[]] w fun e w' => e = .returned (.tuple #[]) ∧ w = w' := by
  have h1 : ∀ W, Calls Try.prog 36 #[.slice none 0 0, .int .i64 0, .int .i64 0, .func (.func 23) #[] #[]] W fun e w' => e = .returned (.tuple #[]) ∧ W = w' := fun W => by
    go_enter Try.func36, Try.ntmps36
    go_wp2
    refine wp_loop_rounds 1 ?_
    rw [rounds_succ]
    go_wp2
    go_end0
    exact ⟨rfl, rfl⟩
  have h2 : ∀ lim W, Calls Try.prog 29 #[.slice none 0 0, .int .i64 0, .int .i64 0, .int .i64 lim, .func (.func 23) #[] #[]] W fun e w' => e = .returned (.tuple #[]) ∧ W = w' := fun lim W => by
    go_enter Try.func29, Try.ntmps29
    go_wp2
    refine wp_loop_rounds 1 ?_
    rw [rounds_succ]
    go_wp2_with (go_at_call 36; refine (h1 _).mono ?_; rintro e w' ⟨rfl, rfl⟩)
    (try simp only [Exit.inBlock, Exit.then])
    refine bodyPost_ret (results_none rfl _ _ _) rfl ?_
    exact ⟨rfl, rfl⟩
  have h3 : ∀ W, Calls Try.prog 30 #[.int .u64 0] W fun e w' => e = .returned (.int .i64 (Lib.bitLen 0 : Nat)) ∧ W = w' := fun W => by
    have h := Any.bits_Len (SlLaysF0.n15.bits (P := Try.prog) (ρ := Try.sortP_ren) { Try.sortP with }) 0 W (by omega) (by omega)
    exact h.mono fun e w' ⟨h1, h2⟩ => ⟨h1, h2.symm⟩
  go_enter Try.func22, Try.ntmps22
  go_wp2_with (first | (go_at_call 30; refine (h3 _).mono ?_; rintro e w' ⟨rfl, rfl⟩) | (go_at_call 29; refine (h2 _ _).mono ?_; rintro e w' ⟨rfl, rfl⟩))
  go_end0
  exact ⟨rfl, rfl⟩
theorem sort_any (B n : Nat) (A : Option Addr) (cap : Nat) (xs : List (Int × Int)) (w : World) (hl : xs.length ≤ 1048576) (hown : OwnL kP 36 w B (.slice A n cap) xs) :
    Calls Try.prog 22 #[.slice A n cap, .func (.func 23) #[] #[]] w fun e w' => e = .returned (.tuple #[]) ∧ OwnL kP 36 w' B (.slice A n cap) (sortP xs) ∧ w.grownBy w' (Value.slice A n cap).ownBlock := by
  rcases hown.2 with ⟨e, hn⟩ | ⟨g, cap', cur, e, _⟩
  · injection e with e1 e2 e3
    subst e1
    subst e2
    subst e3
    obtain rfl : xs = [] := List.eq_nil_of_length_eq_zero hn
    refine (sort_nil w).mono ?_
    rintro e w' ⟨rfl, rfl⟩
    have : sortP [] = [] := List.eq_nil_of_length_eq_zero (sortP_length [])
    rw [this]
    exact ⟨rfl, hown, World.grownBy.refl w _⟩
  · injection e with e1 e2 e3
    subst e1
    subst e2
    subst e3
    exact sort_own B g cap xs w hl hown
end Go.Proofs.Ytjhpbpoldedldaa.Sp
namespace Go.Proofs.Ytjhpbpoldedldaa.Sp
open Go.RowKit Go.Shelf Go.Proofs.Ytjhpbpoldedldaa Mem Held Rc Rs Sl Vm
theorem flat_set1 (z : Int) : ∀ (xs : List (Int × Int)) (j : Nat), j < xs.length → (Sl.flat kP xs).set (j * 2 + 1) (.int .i64 z) = Sl.flat kP (xs.set j ((xs.getD j (0, 0)).1, z))
  | [], j, h => absurd h (by simp)
  | x :: xs, 0, _ => rfl
  | x :: xs, j + 1, h => by
    have := flat_set1 z xs j (by simpa using h)
    have e : (j + 1) * 2 + 1 = j * 2 + 1 + 1 + 1 := by omega
    have f : ∀ (y : Int × Int) (ys : List (Int × Int)), Sl.flat kP (y :: ys) = .int .i64 y.1 :: .int .i64 y.2 :: Sl.flat kP ys := fun y ys => by simp only [Sl.flat, List.flatMap_cons]; rfl
    rw [f, e, List.set_cons_succ, List.set_cons_succ, this, List.set_cons_succ, f, List.getD_cons_succ]
section
variable {α : Type} {k : St α} {t : TypeId} {w w' : World} {base n c : Nat} {A : Option Addr} {v : Value} {xs : List α}
theorem OwnL.at0 (h : OwnL k t w base (.slice A n c) xs) (h0 : 0 < n) : ∃ g, A = some ⟨g, 0, none⟩ ∧ base ≤ g ∧ g < w.heap.size ∧ ∃ cur, w.heap[g]? = some (.cells cur t (0, 0)) := by
  rcases h.2 with ⟨e, hn⟩ | ⟨g, cap, cur, e, hb, hg, _⟩
  · injection e with e1 e2 e3
    omega
  · injection e with e1 e2 e3
    exact ⟨g, e1, hb, (Array.getElem?_eq_some_iff.1 hg).1, cur, hg⟩
theorem OwnL.ne (h : OwnL k t w base v xs) {row : Option Nat} (hr : ∀ r, row = some r → ∃ o : Obj, w.heap[r]? = some o ∧ o.isCells = false) : v.ownBlock = none ∨ v.ownBlock ≠ row := by
  rcases h.2 with ⟨rfl, _⟩ | ⟨g, cap, cur, rfl, _, hg, _⟩
  · exact .inl rfl
  · refine .inr fun e => ?_
    obtain ⟨o, ho, hc⟩ := hr g e.symm
    rw [hg] at ho
    cases ho
    cases hc
theorem OwnL.obj (h : OwnL k t w base v xs) {g : Nat} (e : v.ownBlock = some g) : ∃ cs, w.heap[g]? = some (.cells cs t (0, 0)) := by
  rcases h.2 with ⟨rfl, _⟩ | ⟨g', cap, cur, rfl, _, hg, _⟩
  · cases e
  · have e : some g' = some g := e
    injection e with e
    subst e
    exact ⟨cur, hg⟩
end
section
variable {t : TypeId} {w w' : World} {base g n cap : Nat} {xs : List (Int × Int)}
theorem own_set (h : OwnL kP t w base (.slice (some ⟨g, 0, none⟩) n cap) xs) {j : Nat} (hj : j < xs.length) (z : Int) :
    (∃ u, w.cell? ⟨g, j * 2 + 1, none⟩ = some u) ∧ w.frozen? ⟨g, j * 2 + 1, none⟩ = false ∧ OwnL kP t (w.setCell ⟨g, j * 2 + 1, none⟩ (.int .i64 z)) base (.slice (some ⟨g, 0, none⟩) n cap) (xs.set j ((xs.getD j (0, 0)).1, z)) := by
  rcases h.2 with ⟨e, _⟩ | ⟨g', cap', cur, e, hb, hg, hnc, hcm, hcs, ht⟩
  · cases e
  · injection e with e1 e2 e3
    injection e1 with e1
    injection e1 with e1
    subst e1
    subst e3
    have hcs : cur.size = cap * 2 := hcs
    have ht : cur.toList.take (xs.length * 2) = Sl.flat kP xs := ht
    have hlt : j * 2 + 1 < cur.size := by omega
    have hb' : Blk (w.setCell ⟨g, j * 2 + 1, none⟩ (.int .i64 z)) g t (cur.setIfInBounds (j * 2 + 1) (.int .i64 z)) := Blk.set (w := w) (cs := cur) hg _ _
    refine ⟨⟨cur[j * 2 + 1], by rw [cell_of_row w g _ _ _ (0, 0) hg]; exact Array.getElem?_eq_getElem hlt⟩, by simp [World.frozen?, hg], Sl.flat_length kP _, .inr ⟨g, cap, _, by rw [List.length_set]; exact congrArg (fun n => Value.slice (some ⟨g, 0, none⟩) n cap) e2, hb, hb', by rw [List.length_set]; exact hnc, hcm, by rw [Array.size_setIfInBounds]; exact hcs, ?_⟩⟩
    rw [List.length_set, Array.toList_setIfInBounds]
    show (cur.toList.set (j * 2 + 1) (.int .i64 z)).take (xs.length * 2) = _
    rw [List.take_set, ht, flat_set1 z xs j hj]
variable {P : Program} {ops : Array Oper} {rest : List Oper} {o : Oper} {a : Act} {Q : Exit → Act → World → Prop}
theorem op_store_own (i : Nat) (d : Option Tmp) {K : Act → World → Prop} (ty : TypeId) {x y : Operand} (off j : Nat) (z : Int) (hi : ops[i]? = some o) (hd : o.dst = d) (hw : Region.wanted o (yielded ops a.tmps) = true)
    (ho : o.op = .store ty x y) (hx : a.eval x = .pointer (some ⟨g, off, none⟩)) (hoff : off = j * 2 + 1) (hy : a.eval y = .int .i64 z) (hsz : (P.info? ty).map (·.size) = some 1) (hown : OwnL kP t w base (.slice (some ⟨g, 0, none⟩) n cap) xs) (hj : j < xs.length)
    (h : ∀ w', OwnL kP t w' base (.slice (some ⟨g, 0, none⟩) n cap) (xs.set j ((xs.getD j (0, 0)).1, z)) → w.grownBy w' (some g) → K (a.put d undef) w') : wpOp P ops Q i K a w := by
  subst hd
  subst hoff
  obtain ⟨⟨u, h1⟩, h2, h3⟩ := own_set hown hj z
  refine op_wp i hi hw ?_
  unfold Oper.wp execOp
  simp only [ho, hx, hy, Instr.storeAt, Instr.sureAddr, Sem.run_bind, Sem.run_pure, Result.andThen_ok, run_store_elem ty g _ u (.int .i64 z) h1 h2 hsz rfl rfl]
  exact h _ h3 (grown_setCell _ _ _ _)
theorem wpList_store_own (hw : Region.wanted o (yielded ops a.tmps) = true) (ty : TypeId) (x y : Operand) (ho : o.op = .store ty x y) (off j : Nat) (z : Int) (hx : a.eval x = .pointer (some ⟨g, off, none⟩)) (hoff : off = j * 2 + 1) (hy : a.eval y = .int .i64 z) (hsz : (P.info? ty).map (·.size) = some 1) (hown : OwnL kP t w base (.slice (some ⟨g, 0, none⟩) n cap) xs) (hj : j < xs.length)
    (h : ∀ w', OwnL kP t w' base (.slice (some ⟨g, 0, none⟩) n cap) (xs.set j ((xs.getD j (0, 0)).1, z)) → w.grownBy w' (some g) → wpList P ops Q rest (a.put o.dst undef) w') : wpList P ops Q (o :: rest) a w := by
  subst hoff
  obtain ⟨⟨u, h1⟩, h2, h3⟩ := own_set hown hj z
  refine wpList_step fun _ hK => ?_
  rw [if_pos hw]
  unfold Oper.wp execOp
  simp only [ho, hx, hy, Instr.storeAt, Instr.sureAddr, Sem.run_bind, Sem.run_pure, Result.andThen_ok, run_store_elem ty g _ u (.int .i64 z) h1 h2 hsz rfl rfl]
  exact hK _ _ (h _ h3 (grown_setCell _ _ _ _))
end
structure FI (w : World) (lb SB : Nat) (PC : Array Value) (F : Int → Int → Int) (pre : List R) (W : World) : Prop where
  own : ∃ v, W.heap[lb]? = some (.cells #[v] 22 (0, 0)) ∧ OwnL kP 36 W SB v (foldP F pre)
  prog : Blk W w.heap.size 30 PC
  below : Below w.heap.size w W
theorem FI.from {w : World} {lb SB : Nat} {PC : Array Value} {F : Int → Int → Int} {B : Nat} (hB : w.heap.size ≤ B) : OwnFrom B (FI w lb SB PC F) := fun pre W W' row h hg hr => by
  obtain ⟨v, h1, h2⟩ := h.own
  have hne := fun (b : Nat) (t : TypeId) (cs : Array Value) (hb : W.heap[b]? = some (.cells cs t (0, 0))) => (show some b ≠ row from fun e => by
    obtain ⟨_, o, ho, hc⟩ := hr b e.symm
    rw [hb] at ho
    cases ho
    cases hc)
  exact ⟨⟨v, Held.keep_cells h1 hg (hne _ _ _ h1), h2.kept hg (OwnL.ne h2 fun r e => (hr r e).2)⟩, h.prog.grown hg (hne _ _ _ h.prog), h.below.grown hg h.below.size (fun r e => Nat.le_trans hB (hr r e).1)⟩
end Go.Proofs.Ytjhpbpoldedldaa.Sp
namespace Go.Proofs.Ytjhpbpoldedldaa.Sp
open Go.RowKit Go.Shelf Go.Proofs.Ytjhpbpoldedldaa Mem Held Go.Proofs.Ytjhpbpoldedldaa.Range Rc Rs Sl Vm
attribute [local go_sem] Oper.semAt_some
attribute [local irreducible] wpList wpListIn Calls
theorem zero_pairs : (Try.prog.info? 22).bind (·.zero) = some (.slice none 0 0) := by kernel_rfl
theorem info_pair : (Try.prog.info? 36).map (fun i => (i.zero, i.size, i.bytes)) = some (some (.agg #[.int .i64 0, .int .i64 0]), 2, 16) := by kernel_rfl
set_option maxRecDepth 100000 in
set_option maxHeartbeats 16000000 in
theorem folded_any (B k : Nat) (A1 A2 A3 A : Option Addr) (n1 c1 n2 c2 n3 c3 n c : Nat) (m f fi : List O) (ps : List (Int × Int)) (w : World) (h1 : Lst kO w B A1 n1 m) (h2 : Lst kO w B A2 n2 f) (h3 : Lst kO w B A3 n3 fi) (hp : Lst kP w B A n ps) (hB : B ≤ w.heap.size) (hn : n ≤ 64) (hC : checkB (k : Int) m f fi = true) :
    Calls Try.prog 14 #[.agg #[.int .i64 (k : Int), .slice A1 n1 c1, .slice A2 n2 c2, .slice A3 n3 c3], .slice A n c] w fun e w' => ∃ A' n' c', e = .returned (.slice A' n' c') ∧ OwnL kP 36 w' w.heap.size (.slice A' n' c') (sortP (foldP (foldV (k : Int) m f fi) (live (k : Int) m f fi ps))) ∧ Below w.heap.size w w' := by
  have HLW := Lib.hid (live_wf (K := (k : Int)) (f := f) (e := fi) h1.2.1 hp.2.1 (by rw [hp.1]; omega))
  have HLL := Lib.hid (show (live (k : Int) m f fi ps).length ≤ 256 by have := live_length (k : Int) m f fi ps; rw [hp.1] at this; omega)
  have HFW := Lib.hid (fun a b ha hb => foldV_wf (K := (k : Int)) (m := m) (e := fi) h2.2.1 a b ha hb)
  refine (callsIn_wide (n := 3)).1 ?_
  refine callsIn_of_wp_marks Try.func14 rfl trivial ?_ rfl
  simp only [Try.ntmps14, List.size_toArray, List.length_cons, List.length_nil, Nat.reduceAdd, Nat.reduceSub, Array.replicate_succ, Array.replicate_zero, List.push_toArray, List.append_toArray, List.nil_append, List.cons_append]
  refine wpIn_wide.2 ?_
  go_wp2_with (refine wpList_box_blk (w := w) rfl 30 _ rfl #[.int .i64 (k : Int), .slice A1 n1 c1, .slice A2 n2 c2, .slice A3 n3 c3] rfl ?_; intro u1 q1 g1 z1)
  refine wp_scope_straight ?_
  go_wp2_with (refine wpList_alloc_cell (w := u1) rfl 22 rfl _ zero_pairs rfl ?_; intro u2 q2 g2 z2)
  apply wp_label
  have b2 : Below w.heap.size w u2 := ((Below.refl _ w).grown g1 (Nat.le_refl _) (by simp)).grown g2 g1.size (by simp)
  have hw1 : w.heap.size < u1.heap.size := q1.lt
  have h12 : u1.heap.size < u2.heap.size := (Array.getElem?_eq_some_iff.1 q2).1
  have q1 := q1.grown g2 (by simp)
  clear g1 g2 z1 z2
  go_wp2_with (refine wpList_load_blk (w := u2) rfl 30 _ rfl w.heap.size 4 rfl 30 _ q1 _ Try.underlying30 rfl info_prog rfl ?_)
  refine (living_any (k : Int) A1 A2 A3 A n1 c1 n2 c2 n3 c3 n c u2).mono ?_
  rintro e u3 ⟨bi, bg, rfl, qi, qg, hbi, hbg, b3⟩
  have q1 := q1.after b3
  have q2 := (b3.block _ h12).trans q2
  have hbi3 := qi.lt
  have hbg3 := qg.lt
  have h23 := b3.size
  have b3 := b2.trans (b3.mono b2.size)
  have hit := fun N => living_give N bi bg (fun b => b = u1.heap.size ∨ u3.heap.size ≤ b) B k A1 A2 A3 A n1 c1 n2 c2 n3 c3 n c m f fi ps u3 qi qg (fun e => by rcases e with e | e <;> omega) (fun e => by rcases e with e | e <;> omega) (h1.below (b3.mono hB)) (h2.below (b3.mono hB)) (h3.below (b3.mono hB)) (hp.below (b3.mono hB)) (fun b hb e => by rcases e with e | e <;> omega) (by omega) (by omega) hC
  have i0 : FI w u1.heap.size u3.heap.size #[.int .i64 (k : Int), .slice A1 n1 c1, .slice A2 n2 c2, .slice A3 n3 c3] (foldV (k : Int) m f fi) [] u3 := ⟨⟨_, q2, OwnL.nil _ _ _ _⟩, q1, b3⟩
  clear qi qg q1 q2 b2 hp
  go_wp2_with fail
  refine (wpIn_wide (n := 3)).1 ?_
  refine wpIn_rangeFunc_give rfl (by omega) (gf := 27) (lb := #[.pointer (some ⟨bi, 0, none⟩), .pointer (some ⟨bg, 0, none⟩)]) rfl trivial (enters_of Try.func27 (by kernel_rfl) rfl)
    (hit _) (fun h k => h.trans k) (fun W l o o' hl ho hc _ => KeepR.put W l o o' ho hc) (Below.refl _ _) (fun x B W args hx => by cases hx; rfl)
    (FI w u1.heap.size u3.heap.size #[.int .i64 (k : Int), .slice A1 n1 c1, .slice A2 n2 c2, .slice A3 n3 c3] (foldV (k : Int) m f fi)) (FI.from (by omega)) i0
    (fun x a' pre W => FI w u1.heap.size u3.heap.size #[.int .i64 (k : Int), .slice A1 n1 c1, .slice A2 n2 c2, .slice A3 n3 c3] (foldV (k : Int) m f fi) pre W ∧ ∃ p, u3.heap.size ≤ p ∧ Blk W p 57 #[.bool x.d, .int .i64 x.k, .int .i64 x.v, .int .i64 x.s] ∧ a' = { tmps := #[.agg #[.int .i64 (k : Int), .slice A1 n1 c1, .slice A2 n2 c2, .slice A3 n3 c3], .slice A n c, .pointer (some ⟨w.heap.size, 0, none⟩), undef, .slice none 0 0, .pointer (some ⟨u1.heap.size, 0, none⟩), .pointer (some ⟨p, 0, none⟩), undef, undef, .agg #[.int .i64 (k : Int), .slice A1 n1 c1, .slice A2 n2 c2, .slice A3 n3 c3], .slice A n c, .func (.func 27) #[] #[.pointer (some ⟨bi, 0, none⟩), .pointer (some ⟨bg, 0, none⟩)], .agg #[.bool x.d, .int .i64 x.k, .int .i64 x.v, .int .i64 x.s], undef, undef, undef, undef, undef, undef, undef, undef, undef, undef, undef, undef, undef, undef, undef, undef, undef, undef, undef, undef, undef, undef, undef, undef, undef, undef, undef, undef, undef, undef, undef, undef, undef, undef], defers := [] }) ?ib ?assign ?body ?done
  case ib =>
    rintro x a' pre W W' row ⟨hi, p, hp, hr, h7⟩ hgr hrow
    exact ⟨FI.from (B := u3.heap.size) (by omega) pre W W' row hi hgr hrow, p, hp, blk_own hr hgr hrow, h7⟩
  case assign =>
    rintro l pre x args W0 W K hi hg rfl hpre hsz hK
    simp only [Held.zip_one, List.setIfInBounds_toArray, List.set_cons_zero, List.set_cons_succ]
    gi_wp2_with (first
      | (refine Held.wpListIn_one (r := some l) rfl (by intro c e; cases e) ?_; refine wpList_alloc_blk (w := W) rfl 57 rfl _ zero_rec ?_; intro v2 q2 g2 z2; refine wpList_nil ⟨rfl, ?_⟩)
      | (refine Held.wpListIn_one (r := some l) rfl (by intro c e; cases e) ?_; refine wpList_store_blk (w := v2) rfl 57 _ _ rfl W.heap.size 4 rfl 57 _ #[.bool x.d, .int .i64 x.k, .int .i64 x.v, .int .i64 x.s] rfl q2 size_rec rfl rfl (by kernel_rfl) ?_; intro v3 q3 g3 z3; refine wpList_nil ⟨rfl, ?_⟩))
    have b3' : Below W.heap.size W v3 := ((Below.refl _ W).grown g2 (Nat.le_refl _) (by simp)).grown g3 g2.size (fun r e => by cases e; exact Nat.le_refl _)
    have i1 := FI.from (B := u3.heap.size) (by omega) pre W0 v3 none hi (Lib.grownBy_trans hg (grown_of_below b3' none)) (fun r e => by cases e)
    exact hK _ _ ((Held.others_of_new g2).trans (Held.others_of_grown q2 g3)) (KeepR.of_below b3') ⟨i1, W.heap.size, Nat.le_trans hsz hg.size, q3, rfl⟩
  case body =>
    rintro l pre x a' W ⟨hi, p, hp, qr, rfl⟩ hpre hsz
    obtain ⟨v, hlv, hov⟩ := hi.own
    obtain ⟨A', m0, cc, rfl, HM, hmc, hcm⟩ := hov.form2
    have HPW := Lib.hid (foldP_wf HFW.out pre (fun r hr => HLW.out r (hpre.subset (by simp [hr]))))
    have hm256 : m0 ≤ 256 := by
      have e1 := foldP_length (foldV (k : Int) m f fi) pre
      have e2 := hpre.length_le
      have e3 := HLL.out
      rw [List.length_append] at e2
      rw [HM.out] at e1
      omega
    have HNX := Lib.hid (foldP_snoc (foldV (k : Int) m f fi) pre x)
    obtain ⟨hxk, hxv, _⟩ := HLW.out x (hpre.subset (by simp))
    generalize foldP (foldV (k : Int) m f fi) pre = LS at hov HM HPW HNX
    obtain ⟨xd, xk, xv, xs⟩ := x
    dsimp only at hxk hxv HNX qr ⊢
    have cb := cell_of_one hlv
    have hP := hi.prog
    have hb := hi.below
    have hlbW : u1.heap.size < W.heap.size := by omega
    have hpW := qr.lt
    have hpu : u1.heap.size ≠ p := by omega
    have LW := hov.lst HPW.out
    clear hi hpre
    gi_wp2_with fail
    gi_loopw [15] (fun t wr => ∃ i : Nat, i ≤ m0 ∧ t = .int .i64 i ∧ Below W.heap.size W wr ∧ Hid (∀ j, j < i → (LS.getD j (0, 0)).1 ≠ xk)) (fun t _ => m0 - (intOf t).toNat)
    case atStart => exact ⟨0, by omega, rfl, Below.refl _ _, Lib.hid (fun j hj => absurd hj (by omega))⟩
    case round =>
      obtain ⟨i, him, rfl, hbw, HN⟩ := hrel
      have ow := hov.below hbw
      have cbw := (hbw.cell (p := ⟨u1.heap.size, 0, none⟩) hlbW).trans cb
      have hPw := hP.after hbw
      have qrw := qr.after hbw
      have swr := hbw.size
      have hlw : u1.heap.size < wr.heap.size := by omega
      clear cb
      by_cases hlt : i < m0
      · obtain ⟨g, rfl, hgb, hgl, cur, hg⟩ := OwnL.at0 hov (by omega)
        obtain ⟨b, off, e1, hb1, hx⟩ := (LW.below hbw).at_ hlt
        injection e1 with e1
        injection e1 with e1 e2 e3
        subst e1
        subst e2
        have hpw := LW.wf_at hlt
        have hx : wr.rangeAt g (0 + i * 2) [.int .i64 (LS.getD i (0, 0)).1, .int .i64 (LS.getD i (0, 0)).2] := hx
        obtain ⟨_, hpy⟩ : (Lit.int .i64 (LS.getD i (0, 0)).1).wf = true ∧ (Lit.int .i64 (LS.getD i (0, 0)).2).wf = true := hpw
        have HPX : ∀ q, (LS.getD i (0, 0)).1 = q → Hid ((LS.getD i (0, 0)).1 = q) := fun q h => Lib.hid h
        obtain ⟨px, hpx⟩ : ∃ px, (LS.getD i (0, 0)).1 = px := ⟨_, rfl⟩
        obtain ⟨py, hpye⟩ : ∃ py, (LS.getD i (0, 0)).2 = py := ⟨_, rfl⟩
        rw [hpx, hpye] at hx
        rw [hpye] at hpy
        have HX := HPX px hpx
        have HY := Lib.hid hpye
        clear HPX hpx hpye
        have hlt' : (i : Int) < (m0 : Int) := by omega
        have hi0 : (0 : Int) ≤ (i : Int) := by omega
        by_cases hk : px = xk
        · subst hk
          gi_wp2_with (first
            | (refine Held.wpListIn_one (r := some l) rfl (by intro c e; cases e) ?_; refine wpList_run (w := wr) rfl (v := .pointer (some ⟨g, 0 + i * 2, none⟩)) (Held.y_addr (S := fun _ => True) rfl rfl rfl (run_addr_of (P := Try.prog) 22 36 g 0 m0 cc i 2 .i64 Try.underlying22 size_pair hlt) _ trivial) ?_; refine wpList_nil ⟨rfl, ?_⟩)
            | (refine Held.wpListIn_one (r := some l) rfl (by intro c e; cases e) ?_; refine wpList_run (w := wr) rfl (v := .agg #[.int .i64 px, .int .i64 py]) (y_load_range (S := fun W => W = wr) (n := 2) (cs := [.int .i64 px, .int .i64 py]) rfl rfl Try.underlying36 rfl size_pair rfl (fun W hW => by rw [hW]; exact hx) _ rfl) ?_; refine wpList_nil ⟨rfl, ?_⟩)
            | (refine Held.wpListIn_one (r := some l) rfl (by intro c e; cases e) ?_; refine wpList_alloc_blk (w := wr) rfl 36 rfl _ zero_pair ?_; intro v2 q2 g2 z2; refine wpList_nil ⟨rfl, ?_⟩)
            | (refine Held.wpListIn_one (r := some l) rfl (by intro c e; cases e) ?_; refine wpList_store_blk (w := v2) rfl 36 _ _ rfl wr.heap.size 2 rfl 36 _ #[.int .i64 px, .int .i64 py] rfl q2 size_pair rfl rfl (by kernel_rfl) ?_; intro w8 q8 g3 z3; refine wpList_nil ⟨rfl, ?_⟩; have b8 : Below wr.heap.size wr w8 := ((Below.refl _ wr).grown g2 (Nat.le_refl _) (by simp)).grown g3 g2.size (fun r e => by cases e; exact Nat.le_refl _); have cp0 := q8.cell (i := 0) rfl; have cr1 := (qrw.after b8).cell (i := 1) rfl; clear g2 g3 z2 z3 q2)
            | (refine Held.wpListIn_one (r := some l) rfl (by intro c e; cases e) ?_; refine wpList_run (w := w8) rfl (v := .pointer (some ⟨wr.heap.size, 0, none⟩)) (Held.y_field (S := fun _ => True) (k := 0) (s := 0) rfl rfl Try.underlying36 rfl (by kernel_rfl) rfl _ trivial) ?_; refine wpList_nil ⟨rfl, ?_⟩)
            | (refine Held.wpListIn_one (r := some l) rfl (by intro c e; cases e) ?_; refine wpList_run (w := w8) rfl (v := .pointer (some ⟨p, 1, none⟩)) (Held.y_field (S := fun _ => True) (k := 1) (s := 0) rfl rfl Try.underlying57 rfl (by kernel_rfl) rfl _ trivial) ?_; refine wpList_nil ⟨rfl, ?_⟩))
          clear hx
          have o8 := ow.below b8
          have cb8 := (b8.cell (p := ⟨u1.heap.size, 0, none⟩) hlw).trans cbw
          have qP := hPw.after b8
          have qr8 := qrw.after b8
          have b89 := hbw.trans (b8.mono swr)
          have s8 := b89.size
          have L1 := h1.below ((hb.trans (b89.mono hb.size)).mono hB)
          have L2 := h2.below ((hb.trans (b89.mono hb.size)).mono hB)
          have L3 := h3.below ((hb.trans (b89.mono hb.size)).mono hB)
          have hn1 : ¬ u1.heap.size = g := by omega
          have hn2 : ¬ w.heap.size = g := by omega
          have hn3 : ¬ wr.heap.size = g := by omega
          have hn4 : ¬ p = g := fun e => by
            have e1 : W.heap[p]? = some (.cells _ 57 (0, 0)) := qr
            rw [e, hg] at e1
            injection e1 with e1
            injection e1 with _ e1
            exact absurd e1 (by decide)
          have hB8 : B ≤ w8.heap.size := by have := hb.size; omega
          have hg8 := (b89.block _ hgl).trans hg
          refine Held.wpIn_region_heldR (r := some l) (S := fun V => Only (fun b => b = g) w8 V) rfl (by kernel_rfl) (by kernel_rfl) (by intro a w h; exact h) ?_
          change wpAnyH _ _ _ _ _ _ _ _ w8.drew
          have c0_0 : Only (fun b => b = g) w8 w8.drew := ⟨Nat.le_refl _, fun _ _ _ h _ => h⟩
          refine Held.tk (v := .slice (some ⟨g, 0, none⟩) m0 cc) 0 (some 25) rfl (Held.y_load rfl rfl (by kernel_rfl) (fun W hW => hW.cell (p := ⟨u1.heap.size, 0, none⟩) hn1 cb8)) c0_0 ?_
          simp only [Act.put, Z1, Z2, Z3]
          refine Held.tk (v := .int .i64 (i : Int)) 1 (some 26) rfl (Held.y_move rfl rfl) c0_0 ?_
          simp only [Act.put, Z1, Z2, Z3]
          refine Held.tk (v := .agg #[.int .i64 (k : Int), .slice A1 n1 c1, .slice A2 n2 c2, .slice A3 n3 c3]) 2 (some 27) rfl (Held.y_load_blk (n := 4) rfl rfl Try.underlying30 rfl (by kernel_rfl) rfl (fun W hW => only_blk hW hn2 qP)) c0_0 ?_
          simp only [Act.put, Z1, Z2, Z3]
          refine Held.tk (v := .pointer (some ⟨wr.heap.size, 1, none⟩)) 3 (some 28) rfl (Held.y_field (k := 1) (s := 0) rfl rfl Try.underlying36 rfl (by kernel_rfl) rfl) c0_0 ?_
          simp only [Act.put, Z1, Z2, Z3]
          refine Held.tk (v := .int .i64 py) 4 (some 29) rfl (Held.y_load rfl rfl (by kernel_rfl) (fun W hW => (only_blk hW hn3 q8).cell rfl)) c0_0 ?_
          simp only [Act.put, Z1, Z2, Z3]
          refine Held.tk (v := .pointer (some ⟨p, 2, none⟩)) 5 (some 30) rfl (Held.y_field (k := 2) (s := 0) rfl rfl Try.underlying57 rfl (by kernel_rfl) rfl) c0_0 ?_
          simp only [Act.put, Z1, Z2, Z3]
          refine Held.tk (v := .int .i64 xv) 6 (some 31) rfl (Held.y_load rfl rfl (by kernel_rfl) (fun W hW => (only_blk hW hn4 qr8).cell rfl)) c0_0 ?_
          simp only [Act.put, Z1, Z2, Z3]
          refine Held.one 7 (by kernel_rfl) ?_
          refine Held.op_call 7 (some 32) 21 #[.agg #[.int .i64 (k : Int), .slice A1 n1 c1, .slice A2 n2 c2, .slice A3 n3 c3], .int .i64 py, .int .i64 xv] rfl rfl rfl rfl (enters_of Try.func21 (by kernel_rfl) rfl) (by simp [Act.eval])
            (fold_any B (k : Int) A1 A2 A3 n1 c1 n2 c2 n3 c3 m f fi py xv _ hpy hxv L1 L2 L3 hB8) ?_
          rintro e w1 ⟨rfl, b1⟩
          have c0_1 := c0_0.trans (Only.of_below b1)
          refine ⟨_, rfl, c0_1, ?_⟩
          simp only [Act.put, Z1, Z2, Z3]
          refine Held.tk (v := .pointer (some ⟨g, 0 + i * 2, none⟩)) 8 (some 33) rfl (Held.y_addr rfl rfl rfl (run_addr_of (P := Try.prog) 22 36 g 0 m0 cc i 2 .i64 Try.underlying22 size_pair hlt)) c0_1 ?_
          simp only [Act.put, Z1, Z2, Z3]
          refine Held.tk (v := .pointer (some ⟨g, 0 + i * 2 + 1, none⟩)) 9 (some 34) rfl (Held.y_field (k := 1) (s := 0) rfl rfl Try.underlying36 rfl (by kernel_rfl) rfl) c0_1 ?_
          simp only [Act.put, Z1, Z2, Z3]
          refine Held.one 10 (by kernel_rfl) ?_
          refine op_store_own 10 none 2 (0 + i * 2 + 1) i (foldV (k : Int) m f fi py xv) rfl rfl rfl rfl rfl (by omega) rfl (by kernel_rfl) (OwnL.below (w := w8.drew) o8 b1) (by rw [HM.out]; exact hlt) ?_
          intro w2 oz gz
          have c0_2 := c0_1.trans (Only.of_grown gz (fun r e => by cases e; rfl))
          refine ⟨c0_2, ?_⟩
          simp only [Act.put]
          refine wpAnyH_done (by kernel_rfl) ?_ _
          gi_wp2_with fail
          have bV := ((Below.refl w8.heap.size w8).drew).trans b1
          have bW := b89.trans (bV.mono s8)
          have hg9 := (bV.block _ (Array.getElem?_eq_some_iff.1 hg8).1).trans hg8
          refine ⟨(Held.others_of_new (grown_of_below bW none)).trans (Held.others_of_grown hg9 gz), (KeepR.of_below bW).trans (KeepR.of_grown gz (fun r e => by cases e; exact ⟨.inr hgb, fun o ho ⟨cs, fz, e⟩ => by rw [hg9] at ho; cases ho; injection e with _ e _; exact absurd e (by decide)⟩)), ⟨_, Held.keep_cells ((bW.block _ hlbW).trans hlv) gz (by intro e; injection e with e; exact hn1 e), ?_⟩, (hP.after bW).grown gz (by intro e; injection e with e; exact hn2 e), (hb.trans (bW.mono hb.size)).grown gz (by have := hb.size; have := bW.size; omega) (fun r e => by cases e; omega)⟩
          rw [HNX.out, ins_hit _ _ _ LS i (by rw [HM.out]; exact hlt) HN.out HX.out, HY.out]
          exact oz
        · have hkn : ¬ px = xk := hk
          gi_wp2_with (first
            | (refine Held.wpListIn_one (r := some l) rfl (by intro c e; cases e) ?_; refine wpList_run (w := wr) rfl (v := .pointer (some ⟨g, 0 + i * 2, none⟩)) (Held.y_addr (S := fun _ => True) rfl rfl rfl (run_addr_of (P := Try.prog) 22 36 g 0 m0 cc i 2 .i64 Try.underlying22 size_pair hlt) _ trivial) ?_; refine wpList_nil ⟨rfl, ?_⟩)
            | (refine Held.wpListIn_one (r := some l) rfl (by intro c e; cases e) ?_; refine wpList_run (w := wr) rfl (v := .agg #[.int .i64 px, .int .i64 py]) (y_load_range (S := fun W => W = wr) (n := 2) (cs := [.int .i64 px, .int .i64 py]) rfl rfl Try.underlying36 rfl size_pair rfl (fun W hW => by rw [hW]; exact hx) _ rfl) ?_; refine wpList_nil ⟨rfl, ?_⟩)
            | (refine Held.wpListIn_one (r := some l) rfl (by intro c e; cases e) ?_; refine wpList_alloc_blk (w := wr) rfl 36 rfl _ zero_pair ?_; intro v2 q2 g2 z2; refine wpList_nil ⟨rfl, ?_⟩)
            | (refine Held.wpListIn_one (r := some l) rfl (by intro c e; cases e) ?_; refine wpList_store_blk (w := v2) rfl 36 _ _ rfl wr.heap.size 2 rfl 36 _ #[.int .i64 px, .int .i64 py] rfl q2 size_pair rfl rfl (by kernel_rfl) ?_; intro w8 q8 g3 z3; refine wpList_nil ⟨rfl, ?_⟩; have b8 : Below wr.heap.size wr w8 := ((Below.refl _ wr).grown g2 (Nat.le_refl _) (by simp)).grown g3 g2.size (fun r e => by cases e; exact Nat.le_refl _); have cp0 := q8.cell (i := 0) rfl; have cr1 := (qrw.after b8).cell (i := 1) rfl; clear g2 g3 z2 z3 q2)
            | (refine Held.wpListIn_one (r := some l) rfl (by intro c e; cases e) ?_; refine wpList_run (w := w8) rfl (v := .pointer (some ⟨wr.heap.size, 0, none⟩)) (Held.y_field (S := fun _ => True) (k := 0) (s := 0) rfl rfl Try.underlying36 rfl (by kernel_rfl) rfl _ trivial) ?_; refine wpList_nil ⟨rfl, ?_⟩)
            | (refine Held.wpListIn_one (r := some l) rfl (by intro c e; cases e) ?_; refine wpList_run (w := w8) rfl (v := .pointer (some ⟨p, 1, none⟩)) (Held.y_field (S := fun _ => True) (k := 1) (s := 0) rfl rfl Try.underlying57 rfl (by kernel_rfl) rfl _ trivial) ?_; refine wpList_nil ⟨rfl, ?_⟩))
          have b89 := hbw.trans (b8.mono swr)
          go_roundw
          case rel => exact ⟨i + 1, by omega, by go_num, b89, Lib.hid (fun j hj => if e : j = i then (by rw [e, HX.out]; exact hkn) else HN.out j (by omega))⟩
          case measure => simp [intOf]; omega
      · have hin : i = m0 := by omega
        subst hin
        have cr1 := qrw.cell (i := 1) rfl
        have cr2 := qrw.cell (i := 2) rfl
        have hbe := Nat.le_trans hsz swr
        gi_wp2_with (first
          | (refine Held.wpListIn_one (r := some l) rfl (by intro c e; cases e) ?_; refine wpList_run (w := wr) rfl (v := .pointer (some ⟨p, 1, none⟩)) (Held.y_field (S := fun _ => True) (k := 1) (s := 0) rfl rfl Try.underlying57 rfl (by kernel_rfl) rfl _ trivial) ?_; refine wpList_nil ⟨rfl, ?_⟩)
          | (refine Held.wpListIn_one (r := some l) rfl (by intro c e; cases e) ?_; refine wpList_run (w := wr) rfl (v := .pointer (some ⟨p, 2, none⟩)) (Held.y_field (S := fun _ => True) (k := 2) (s := 0) rfl rfl Try.underlying57 rfl (by kernel_rfl) rfl _ trivial) ?_; refine wpList_nil ⟨rfl, ?_⟩)
          | (refine Held.wpListIn_one (r := some l) rfl (by intro c e; cases e) ?_; refine wpList_run (w := wr) rfl (v := .agg #[.int .i64 xk, .int .i64 xv]) (Held.y_build (S := fun _ => True) rfl (by kernel_rfl) _ trivial) ?_; refine wpList_nil ⟨rfl, ?_⟩)
          | (refine Held.wpListIn_one (r := some l) rfl (by intro c e; cases e) ?_; refine wpList_build_lst (k := kP) (w := wr) rfl 22 36 1 _ rfl Try.underlying22 _ 16 info_pair rfl [(xk, xv)] rfl (by kernel_rfl) (by omega) (by decide) ?_; intro w8 q8 g8 z8; refine wpList_nil ⟨rfl, ?_⟩; have b8 : Below wr.heap.size wr w8 := (Below.refl _ wr).grown g8 (Nat.le_refl _) (by simp); have o8 := ow.below b8; have l8 : Lst kP w8 w8.heap.size (some ⟨wr.heap.size, 0, none⟩) 1 [(xk, xv)] := lst_whole q8 rfl (fun x hx => by rw [List.mem_singleton.1 hx]; exact ⟨hxk, hxv⟩); have cb8 := (b8.block _ hlw).trans ((hbw.block _ hlbW).trans hlv))
          | (refine Held.wpListIn_one (r := some l) rfl (by intro c e; cases e) ?_; refine wpList_append_lst (k := kP) (w := w8) rfl _ _ 22 36 rfl Try.underlying22 _ 16 info_pair rfl u3.heap.size w8.heap.size wr.heap.size 0 1 1 (.slice A' i cc) LS [(xk, xv)] rfl rfl o8 l8 (by rw [HM.out]; omega) (by omega) (Nat.le_trans hbe b8.size) ?_; intro v9 w9 o9 g9 n9; refine wpList_nil ⟨rfl, ?_⟩; obtain ⟨A9, n9', c9, rfl, hl9, hc9, hm9⟩ := o9.form2; have hn9 : some u1.heap.size ≠ (Value.slice A' i cc).ownBlock := (fun e => by have := (o8.lt _ e.symm).1; omega); have cb9 := Held.keep_cells cb8 g9 hn9)
          | (refine Held.wpListIn_one (r := some l) rfl (by intro c e; cases e) ?_; refine wpList_store_box (w := w9) rfl 22 _ _ rfl u1.heap.size rfl 22 (.slice A' i cc) (.slice A9 n9' c9) rfl cb9 (by kernel_rfl) rfl rfl ?_; intro w10 cb10 g10; refine wpList_nil ⟨rfl, ?_⟩))
        have bW := hbw.trans (b8.mono swr)
        have hown : ∀ r, (Value.slice A' i cc).ownBlock = some r → u3.heap.size ≤ r ∧ r < w8.heap.size := fun r e => o8.lt r e
        have k1 : KeepsOthers W w8 := Held.others_of_new (grown_of_below bW none)
        have k2 : KeepsOthers w8 w9 := KeepsOthers.of_grownBy g9 (fun j o e ho => by
          obtain ⟨cs, hcs⟩ := OwnL.obj o8 e
          rw [hcs] at ho
          cases ho
          rfl)
        have k3 : KeepsOthers w9 w10 := Held.others_of_grown cb9 g10
        have r2 : KeepR (fun b => b = u1.heap.size ∨ u3.heap.size ≤ b) w8 w9 := KeepR.of_grown g9 (fun r e => ⟨.inr (hown r e).1, fun o ho ⟨cs, fz, eo⟩ => by
          obtain ⟨cs', hcs⟩ := OwnL.obj o8 e
          rw [hcs] at ho
          cases ho
          injection eo with _ eo _
          exact absurd eo (by decide)⟩)
        have r3 : KeepR (fun b => b = u1.heap.size ∨ u3.heap.size ≤ b) w9 w10 := KeepR.of_grown g10 (fun r e => by
          cases e
          exact ⟨.inl rfl, fun o ho ⟨cs, fz, eo⟩ => by
            rw [cb9] at ho
            cases ho
            injection eo with _ eo _
            exact absurd eo (by decide)⟩)
        have hown9 : (Value.slice A9 n9' c9).ownBlock = none ∨ (Value.slice A9 n9' c9).ownBlock ≠ some u1.heap.size := .inr fun e => by have := (o9.lt _ e).1; omega
        have hwP : some w.heap.size ≠ (Value.slice A' i cc).ownBlock := fun e => by have := (hown _ e.symm).1; omega
        have hbW := hb.size
        have hs8 := b8.size
        have hs9 := g9.size
        refine ⟨(k1.trans k2).trans k3, ((KeepR.of_below bW).trans r2).trans r3, ⟨_, cb10, ?_⟩, ((hP.after bW).grown g9 hwP).grown g10 (by intro e; injection e with e; omega), ((hb.trans (bW.mono hb.size)).grown g9 (by omega) (fun r e => by have := (hown r e).1; omega)).grown g10 (by omega) (fun r e => by cases e; omega)⟩
        rw [HNX.out, ins_miss _ _ _ LS (fun j hj => HN.out j (by rw [HM.out] at hj; exact hj))]
        exact o9.kept g10 hown9
  case done =>
    rintro D W hD hi hDl
    obtain ⟨v, hlv, hov⟩ := hi.own
    obtain ⟨A', m0, cc, rfl, HM, hmc, hcm⟩ := hov.form2
    have cb := cell_of_one hlv
    have hb := hi.below
    have hlen : (foldP (foldV (k : Int) m f fi) (live (k : Int) m f fi ps)).length ≤ 1048576 := by
      have e1 := foldP_length (foldV (k : Int) m f fi) (live (k : Int) m f fi ps)
      have e3 := HLL.out
      omega
    clear hi
    go_wp2_with fail
    refine (sort_any u3.heap.size m0 A' cc _ W hlen hov).mono ?_
    rintro e W2 ⟨rfl, o2, g2⟩
    have hlD := (Array.getElem?_eq_some_iff.1 hDl).1
    have cb2 := cell_of_one (Held.keep_cells hlv g2 (fun e => by have := (hov.lt _ e.symm).1; omega))
    have d2 : W2.heap[D]? = some (.deferred (some [])) := (g2.block D hlD (fun e => by
      obtain ⟨cs, hcs⟩ := OwnL.obj hov e.symm
      rw [hcs] at hDl
      cases hDl)).trans hDl
    have bz := hb.grown g2 hb.size (fun r e => by have := (hov.lt _ e).1; have := h23; omega)
    clear cb hov hlv g2
    go_wp2_with fail
    refine ⟨by simp, .inl ⟨_, _, rfl, run_takeDeferred d2, ?_⟩⟩
    refine ⟨_, results_tmp rfl _ _ _, A', m0, cc, rfl, ?_, bz.grown (grownBy_putObj' _ D _) bz.size (fun r e => by cases e; omega)⟩
    exact ((o2.kept (grownBy_putObj' _ D _) (OwnL.ne o2 fun r e => by cases e; exact ⟨_, d2, rfl⟩))).less (by omega)
end Go.Proofs.Ytjhpbpoldedldaa.Sp
namespace Go.Proofs.Ytjhpbpoldedldaa.Sp
open Go.RowKit Go.Shelf Go.Proofs.Ytjhpbpoldedldaa Mem Held Go.Proofs.Ytjhpbpoldedldaa.Range Rc Rs Sl Vm
attribute [local irreducible] wpList wpListIn Calls
def half (g : Int × Int → Int × Int) (xs : List (Int × Int)) (i : Nat) : List (Int × Int) := (xs.take i).map g ++ xs.drop i
theorem half_length (g : Int × Int → Int × Int) (xs : List (Int × Int)) (i : Nat) : (half g xs i).length = xs.length := by simp [half]; omega
theorem half_get (g : Int × Int → Int × Int) (xs : List (Int × Int)) {i : Nat} (hi : i < xs.length) : (half g xs i).getD i (0, 0) = xs.getD i (0, 0) := by
  rw [half, List.getD_eq_getElem?_getD, List.getD_eq_getElem?_getD, List.getElem?_append_right (by simp; omega)]
  simp
  rw [show i - min i xs.length = 0 by omega, Nat.add_zero]
theorem half_set (g : Int × Int → Int × Int) (xs : List (Int × Int)) {i : Nat} (hi : i < xs.length) (z : Int × Int) (hz : g (xs.getD i (0, 0)) = z) : (half g xs i).set i z = half g xs (i + 1) := by
  subst hz
  have hl : ((xs.take i).map g).length = i := by simp; omega
  rw [half, half, List.set_append_right _ _ (by omega), hl, Nat.sub_self, List.drop_eq_getElem_cons hi, List.set_cons_zero, List.take_succ_eq_append_getElem hi, List.map_append, List.append_assoc, List.getD_eq_getElem?_getD, List.getElem?_eq_getElem hi]
  rfl
def finP (K : Int) (m f e : List O) (p : Int × Int) : Int × Int := (p.1, finishV K m f e p.1 p.2)
def runP (K : Int) (m f e : List O) (ps : List (Int × Int)) : List (Int × Int) := (sortP (foldP (foldV K m f e) (live K m f e ps))).map (finP K m f e)
theorem rightB_says {r k b wk : Int} (h : rightB r k b wk = true) : 1 ≤ r ∧ r ≤ 64 ∧ 1 ≤ k ∧ k ≤ 4 := by
  simp only [rightB, Bool.and_eq_true, decide_eq_true_eq] at h
  exact ⟨h.1.1.1.1.1, h.1.1.1.1.2, h.1.1.1.2.1, h.1.1.1.2.2⟩
set_option maxRecDepth 100000 in
set_option maxHeartbeats 16000000 in
theorem run_ok (B k : Nat) (bk wk : Int) (A1 A2 A3 A : Option Addr) (n1 c1 n2 c2 n3 c3 n c : Nat) (m f fi : List O) (ps : List (Int × Int)) (w : World) (h1 : Lst kO w B A1 n1 m) (h2 : Lst kO w B A2 n2 f) (h3 : Lst kO w B A3 n3 fi) (hp : Lst kP w B A n ps) (hB : B ≤ w.heap.size) (hC : checkB (k : Int) m f fi = true) (hR : rightB (n : Int) (k : Int) bk wk = true) :
    Calls Try.prog 9 #[.agg #[.int .i64 (k : Int), .slice A1 n1 c1, .slice A2 n2 c2, .slice A3 n3 c3], .agg #[.int .i64 (n : Int), .int .i64 (k : Int), .int .i64 bk, .int .i64 wk], .slice A n c] w fun e w' => ∃ A' n' c', e = .returned (.tuple #[.slice A' n' c', .int .i64 0]) ∧ OwnL kP 36 w' w.heap.size (.slice A' n' c') (runP (k : Int) m f fi ps) ∧ Below w.heap.size w w' := by
  obtain ⟨hn1', hn64', _, _⟩ := rightB_says hR
  have hn64 : n ≤ 64 := by omega
  have HR := Lib.hid (show rightE (n : Int) (k : Int) bk wk = 0 by rw [rightE, if_pos hR])
  have HC := Lib.hid (show checkE (k : Int) m f fi = 0 by rw [checkE, if_pos hC])
  have HLW := Lib.hid (live_wf (K := (k : Int)) (f := f) (e := fi) h1.2.1 hp.2.1 (by rw [hp.1]; omega))
  have HLL := Lib.hid (show (live (k : Int) m f fi ps).length ≤ 256 by have := live_length (k : Int) m f fi ps; rw [hp.1] at this; omega)
  have HFW := Lib.hid (fun a b ha hb => foldV_wf (K := (k : Int)) (m := m) (e := fi) h2.2.1 a b ha hb)
  have HEW := Lib.hid (fun a b ha hb => finishV_wf (K := (k : Int)) (m := m) (f := f) h3.2.1 a b ha hb)
  obtain ⟨xs, hX⟩ : ∃ xs, sortP (foldP (foldV (k : Int) m f fi) (live (k : Int) m f fi ps)) = xs := ⟨_, rfl⟩
  have HX := Lib.hid hX
  have HL1 := Lib.hid (show xs.length ≤ 256 by
    rw [← hX, sortP_length]
    exact Nat.le_trans (foldP_length _ _) HLL.out)
  have HW1 := Lib.hid (show ∀ x ∈ xs, pwf x from fun x hx => by
    rw [← hX] at hx
    exact foldP_wf HFW.out _ HLW.out x (sortP_mem.1 hx))
  rw [runP, hX]
  clear hR hn1' hn64' HLW HLL HFW hX
  go_enter Try.func9, Try.ntmps9
  go_wp2_with (first
    | (refine wpList_box_blk (w := w) rfl 30 _ rfl #[.int .i64 (k : Int), .slice A1 n1 c1, .slice A2 n2 c2, .slice A3 n3 c3] rfl ?_; intro u1 qa g1 z1)
    | (refine wpList_box_blk (w := u1) rfl 33 _ rfl #[.int .i64 (n : Int), .int .i64 (k : Int), .int .i64 bk, .int .i64 wk] rfl ?_; intro u2 qb g2 z2; have qa := qa.grown g2 (by simp); have b2 : Below w.heap.size w u2 := ((Below.refl _ w).grown g1 (Nat.le_refl _) (by simp)).grown g2 g1.size (by simp); have hab : w.heap.size ≤ u1.heap.size := g1.size; clear g1 z1 g2 z2)
    | (refine wpList_load_blk (w := u2) rfl 33 _ rfl u1.heap.size 4 rfl 33 _ qb _ Try.underlying33 rfl size_params rfl ?_))
  refine (right_any (n : Int) (k : Int) bk wk u2).mono ?_
  rintro e u3 ⟨rfl, b3⟩
  rw [HR.out]
  have qa := qa.after b3
  have qb := qb.after b3
  have b3 := b2.trans (b3.mono b2.size)
  clear b2
  go_wp2_with (refine wpList_load_blk (w := u3) rfl 30 _ rfl w.heap.size 4 rfl 30 _ qa _ Try.underlying30 rfl info_prog rfl ?_)
  refine (check_any B (k : Int) A1 A2 A3 n1 c1 n2 c2 n3 c3 m f fi u3 (h1.below (b3.mono hB)) (h2.below (b3.mono hB)) (h3.below (b3.mono hB)) (Nat.le_trans hB b3.size)).mono ?_
  rintro e u4 ⟨rfl, b4⟩
  rw [HC.out]
  have qa := qa.after b4
  have qb := qb.after b4
  have b4 := b3.trans (b4.mono b3.size)
  have ca := qa.cell (i := 0) rfl
  have cb := qb.cell (i := 1) rfl
  have cr := qb.cell (i := 0) rfl
  clear b3
  go_wp2_with (first
    | (refine wpList_run (w := u4) rfl (v := .pointer (some ⟨w.heap.size, 0, none⟩)) (Held.y_field (S := fun _ => True) (k := 0) (s := 0) rfl rfl Try.underlying30 rfl (by kernel_rfl) rfl _ trivial) ?_)
    | (refine wpList_run (w := u4) rfl (v := .pointer (some ⟨u1.heap.size, 1, none⟩)) (Held.y_field (S := fun _ => True) (k := 1) (s := 0) rfl rfl Try.underlying33 rfl (by kernel_rfl) rfl _ trivial) ?_)
    | (refine wpList_run (w := u4) rfl (v := .pointer (some ⟨u1.heap.size, 0, none⟩)) (Held.y_field (S := fun _ => True) (k := 0) (s := 0) rfl rfl Try.underlying33 rfl (by kernel_rfl) rfl _ trivial) ?_)
    | (refine wpList_load_blk (w := u4) rfl 30 _ rfl w.heap.size 4 rfl 30 _ qa _ Try.underlying30 rfl info_prog rfl ?_))
  refine (folded_any B k A1 A2 A3 A n1 c1 n2 c2 n3 c3 n c m f fi ps u4 (h1.below (b4.mono hB)) (h2.below (b4.mono hB)) (h3.below (b4.mono hB)) (hp.below (b4.mono hB)) (Nat.le_trans hB b4.size) hn64 hC).mono ?_
  rintro e u5 ⟨A', m0, c0, rfl, o5, b5⟩
  rw [HX.out] at o5
  obtain ⟨A9, c9, e9, hl9, _⟩ := o5.form
  injection e9 with e1 e2 e3
  subst e1
  subst e3
  have HM := Lib.hid e2.symm
  have hw4 : w.heap.size < u4.heap.size := qa.lt
  have qa := qa.after b5
  have b5 := b4.trans (b5.mono b4.size)
  have hm256 : m0 ≤ 256 := by rw [← HM.out]; exact HL1.out
  have hlA := qa.lt
  have HH0 := Lib.hid (show half (finP (k : Int) m f fi) xs 0 = xs by simp [half])
  clear e2 hl9 qb ca cb cr b4 hp HR HC hC hn64
  go_wp2_with fail
  go_loopw [37] (fun t wr => ∃ i : Nat, i ≤ m0 ∧ t = .int .i64 i ∧ OwnL kP 36 wr u4.heap.size (.slice A' m0 c0) (half (finP (k : Int) m f fi) xs i) ∧ Blk wr w.heap.size 30 #[.int .i64 (k : Int), .slice A1 n1 c1, .slice A2 n2 c2, .slice A3 n3 c3] ∧ Below w.heap.size w wr) (fun t _ => m0 - (intOf t).toNat)
  case atStart => exact ⟨0, by omega, rfl, by rw [HH0.out]; exact o5, qa, b5⟩
  case round =>
    clear o5 qa b5 HH0
    obtain ⟨i, him, rfl, oi, qa, bi⟩ := hrel
    by_cases hlt : i < m0
    · obtain ⟨g, rfl, hgb, hgl, cur, hg⟩ := OwnL.at0 oi (by omega)
      have hli : i < xs.length := by rw [HM.out]; exact hlt
      have hwx : ∀ x ∈ half (finP (k : Int) m f fi) xs i, pwf x := fun x hx => by
        rcases List.mem_append.1 hx with hx | hx
        · obtain ⟨y, hy, rfl⟩ := List.mem_map.1 hx
          have := HW1.out y (List.mem_of_mem_take hy)
          exact ⟨this.1, HEW.out _ _ this.1 this.2⟩
        · exact HW1.out x (List.mem_of_mem_drop hx)
      have hlen : (half (finP (k : Int) m f fi) xs i).length = m0 := by rw [half_length, HM.out]
      obtain ⟨b, off, e1, hb1, hx⟩ := (oi.lst hwx).at_ hlt
      injection e1 with e1
      injection e1 with e1 e2 e3
      subst e1
      subst e2
      have hpw : pwf ((half (finP (k : Int) m f fi) xs i).getD i (0, 0)) := (oi.lst hwx).wf_at hlt
      have hx : wr.rangeAt g (0 + i * 2) [.int .i64 ((half (finP (k : Int) m f fi) xs i).getD i (0, 0)).1, .int .i64 ((half (finP (k : Int) m f fi) xs i).getD i (0, 0)).2] := hx
      rw [half_get _ _ hli] at hx hpw
      have HS := Lib.hid (half_set (finP (k : Int) m f fi) xs hli)
      have HGX := Lib.hid (half_get (finP (k : Int) m f fi) xs hli)
      obtain ⟨⟨px, py⟩, hpp⟩ : ∃ p, xs.getD i (0, 0) = p := ⟨_, rfl⟩
      rw [hpp] at hx hpw
      have HPP := Lib.hid hpp
      obtain ⟨hpx, hpy⟩ := hpw
      dsimp only at hx hpx hpy
      have HLN := Lib.hid hlen
      have hlt' : (i : Int) < (m0 : Int) := by omega
      have hi0 : (0 : Int) ≤ (i : Int) := by omega
      clear hpp hwx hlen
      go_wp2_with (first
        | (refine wpList_run (w := wr) rfl (v := .pointer (some ⟨g, 0 + i * 2, none⟩)) (Held.y_addr (S := fun _ => True) rfl rfl rfl (run_addr_of (P := Try.prog) 22 36 g 0 m0 c0 i 2 .i64 Try.underlying22 size_pair hlt) _ trivial) ?_)
        | (refine wpList_run (w := wr) rfl (v := .agg #[.int .i64 px, .int .i64 py]) (y_load_range (S := fun W => W = wr) (n := 2) (cs := [.int .i64 px, .int .i64 py]) rfl rfl Try.underlying36 rfl size_pair rfl (fun W hW => by rw [hW]; exact hx) _ rfl) ?_)
        | (refine wpList_alloc_blk (w := wr) rfl 36 rfl _ zero_pair ?_; intro v2 q2 g2 z2)
        | (refine wpList_store_blk (w := v2) rfl 36 _ _ rfl wr.heap.size 2 rfl 36 _ #[.int .i64 px, .int .i64 py] rfl q2 size_pair rfl rfl (by kernel_rfl) ?_; intro w8 q8 g3 z3; have b8 : Below wr.heap.size wr w8 := ((Below.refl _ wr).grown g2 (Nat.le_refl _) (by simp)).grown g3 g2.size (fun r e => by cases e; exact Nat.le_refl _); have cp0 := q8.cell (i := 0) rfl; have cp1 := q8.cell (i := 1) rfl; have qa8 := qa.after b8; clear g2 g3 z2 z3 q2)
        | (refine wpList_load_blk (w := w8) rfl 30 _ rfl w.heap.size 4 rfl 30 _ qa8 _ Try.underlying30 rfl info_prog rfl ?_)
        | (refine wpList_run (w := w8) rfl (v := .pointer (some ⟨wr.heap.size, 0, none⟩)) (Held.y_field (S := fun _ => True) (k := 0) (s := 0) rfl rfl Try.underlying36 rfl (by kernel_rfl) rfl _ trivial) ?_)
        | (refine wpList_run (w := w8) rfl (v := .pointer (some ⟨wr.heap.size, 1, none⟩)) (Held.y_field (S := fun _ => True) (k := 1) (s := 0) rfl rfl Try.underlying36 rfl (by kernel_rfl) rfl _ trivial) ?_))
      have b8i := bi.trans (b8.mono bi.size)
      refine (finish_any B (k : Int) A1 A2 A3 n1 c1 n2 c2 n3 c3 m f fi px py w8 hpx hpy (h1.below (b8i.mono hB)) (h2.below (b8i.mono hB)) (h3.below (b8i.mono hB)) (Nat.le_trans hB b8i.size)).mono ?_
      rintro e w9 ⟨rfl, b9⟩
      have b89 := b8.trans (b9.mono b8.size)
      have o9 := oi.below b89
      have qa9 := qa8.after b9
      have b9i := bi.trans (b89.mono bi.size)
      clear oi qa qa8 q8 cp0 cp1 hx b8 b9
      go_wp2_with (first
        | (refine wpList_run (w := w9) rfl (v := .pointer (some ⟨g, 0 + i * 2, none⟩)) (Held.y_addr (S := fun _ => True) rfl rfl rfl (run_addr_of (P := Try.prog) 22 36 g 0 m0 c0 i 2 .i64 Try.underlying22 size_pair hlt) _ trivial) ?_)
        | (refine wpList_run (w := w9) rfl (v := .pointer (some ⟨g, 0 + i * 2 + 1, none⟩)) (Held.y_field (S := fun _ => True) (k := 1) (s := 0) rfl rfl Try.underlying36 rfl (by kernel_rfl) rfl _ trivial) ?_)
        | (refine wpList_store_own (w := w9) rfl 2 _ _ rfl (0 + i * 2 + 1) i (finishV (k : Int) m f fi px py) rfl (by omega) rfl (by kernel_rfl) o9 (by rw [HLN.out]; exact hlt) ?_; intro w10 o10 g10))
      have qa10 := qa9.grown g10 (by intro e; injection e with e; omega)
      have b10 := b9i.grown g10 b9i.size (fun r e => by cases e; omega)
      rw [HGX.out, HPP.out, HS.out _ (by rw [HPP.out]; rfl)] at o10
      go_roundw
      case rel => exact ⟨i + 1, by omega, by go_num, o10, qa10, b10⟩
      case measure => simp [intOf]; omega
    · have him' : i = m0 := by omega
      subst him'
      have he : half (finP (k : Int) m f fi) xs i = xs.map (finP (k : Int) m f fi) := by
        rw [half, ← HM.out, List.take_length, List.drop_length, List.append_nil]
      rw [he] at oi
      clear he
      have oi := oi.less (b := w.heap.size) (by omega)
      go_wp2_with fail
      go_ret2
      exact ⟨_, _, _, rfl, oi, bi⟩
end Go.Proofs.Ytjhpbpoldedldaa.Sp
namespace Go.Proofs.Ytjhpbpoldedldaa.Vm
open Go.RowKit Go.Shelf Go.Proofs.Ytjhpbpoldedldaa Mem Held Rc Rs Sl
attribute [local irreducible] wpList wpListIn Calls
theorem zero_prog : (Try.prog.info? 30).bind (·.zero) = some (.agg #[.int .i64 0, .slice none 0 0, .slice none 0 0, .slice none 0 0]) := by kernel_rfl
end Go.Proofs.Ytjhpbpoldedldaa.Vm
