/-
  sha.Sum of parts that the caller has just laid into a list, by its contract.
  copy into a block that is known whole: no program here.
  HMAC as a plain function; the functions fitted and keyed of package mac's beginnings.
  The iterator over a first part and all parts behind it, of package mac, by its contract.
  The function keyed of package mac by its contract: the sum of the key's block, each byte of it turned, and of all parts behind it.
  Two arrays of the same integers are alike, by the model's own '=='.
  append(s, make([]T, m)...) onto what the call owns, for numbers: no program here.
  A region that draws its order, gone through by hand, operation by operation: what hangs on no world is taken first, what comes up alone is carried out.
-/
import Derived.Test.YtjelacblnjbfgaaGreatDoorB3
import Derived.Test.YtjelacblnjbfgaaGreatDoorB1
import Derived.Laws.CopyOwn
import Derived.OneCell
import Derived.Laws.StructEq
import Derived.ChangeKeysEq
import Derived.Lib.AppendZerosOnto
import Derived.Maps.AppendAt
import Derived.Deep.RegionHeld
import Derived.Great.BuildSlice
import Derived.Great.FillDense
import Derived.Shelf.Abstract
set_option linter.unusedVariables false
namespace Go.Proofs.YtjelacblnjbfgaaGreatDoor.Sha
open Go.RowKit Mem Help Go.Proofs.YtjelacblnjbfgaaGreatDoor.Sum
theorem Texts.cons {w : World} {B : Nat} {v : Value} {vs : List Value} {xs : List Int} {xss : List (List Int)} (h : Texts w B [v] [xs]) (k : Texts w B vs xss) : Texts w B (v :: vs) (xs :: xss) := h.append k
theorem sum_built (w : World) (n c : Nat) (vs : List Value) (xss : List (List Int)) (zs : List Int) (hv : vs.length = n) (hn : n ≤ 1000) (ht : Texts w w.heap.size vs xss) (hx : xss.flatten = zs) (hz : zs.length ≤ 1099511627776)
    (hT0 : Tab w 2 Sum.H0) (hT1 : Tab w 3 Sum.K) :
    Calls Tryz.prog 119 #[.slice (some ⟨w.heap.size, 0, none⟩) n c] (w.alloc (.cells vs.toArray 27)) fun e w' => e = .returned (.agg (arr .u8 (Sum.sha zs))) ∧ Below w.heap.size w w' := by
  subst hv
  subst hx
  have p1 := Vals.new w 27 vs ht.one_cell
  have hb1 : Below w.heap.size w (w.alloc (.cells vs.toArray 27)) := (Below.refl _ w).alloc (Nat.le_refl _) _
  have t1 := (ht.below hb1).more (B' := w.heap.size + 1) (by omega)
  refine (sum_any _ _ _ c _ xss _ p1 t1 (by simp) (by omega) hz ht.bs (hT0.below hb1 hT0.lt) (hT1.below hb1 hT1.lt)).mono ?_
  rintro e w' ⟨rfl, hb⟩
  exact ⟨rfl, hb1.trans (hb.mono (by simp))⟩
theorem sum_one (w : World) (B : Nat) (A : Option Addr) (n c d : Nat) (zs : List Int) (h : Ints w .u8 B A n zs) (hB : B ≤ w.heap.size) (hd : n ≤ d) (hd' : d ≤ maxLen) (hn : n ≤ 1099511627776)
    (hT0 : Tab w 2 Sum.H0) (hT1 : Tab w 3 Sum.K) :
    Calls Tryz.prog 119 #[.slice (some ⟨w.heap.size, 0, none⟩) 1 c] (w.alloc (.cells #[.slice A n d] 27)) fun e w' => e = .returned (.agg (arr .u8 (Sum.sha zs))) ∧ Below w.heap.size w w' :=
  sum_built w 1 c [.slice A n d] [zs] zs rfl (by omega) (Texts.one (h.more hB) hd hd') (by simp) (by rw [h.1]; exact hn) hT0 hT1
end Go.Proofs.YtjelacblnjbfgaaGreatDoor.Sha
namespace Go.Proofs.YtjelacblnjbfgaaGreatDoor.Mem
open Go.RowKit Go.Shelf
def laidOver (cur : List Int) (off : Nat) (xs : List Int) : List Int := cur.take off ++ (xs ++ cur.drop (off + xs.length))
theorem laidOver_length (cur : List Int) (off : Nat) (xs : List Int) (h : off + xs.length ≤ cur.length) : (laidOver cur off xs).length = cur.length := by simp [laidOver]; omega
theorem laidOver_nil (cur : List Int) (off : Nat) : laidOver cur off [] = cur := by simp [laidOver]
theorem laidOver_mem {cur xs : List Int} {off : Nat} {z : Int} (h : z ∈ laidOver cur off xs) : z ∈ cur ∨ z ∈ xs := by
  rcases List.mem_append.1 h with h | h
  · exact .inl (List.mem_of_mem_take h)
  · rcases List.mem_append.1 h with h | h
    · exact .inr h
    · exact .inl (List.mem_of_mem_drop h)
theorem laidOver_get (cur : List Int) (off : Nat) (xs : List Int) (h : off + xs.length ≤ cur.length) (i : Nat) :
    (laidOver cur off xs).getD i 0 = if off ≤ i ∧ i < off + xs.length then xs.getD (i - off) 0 else cur.getD i 0 := by
  have ht : (cur.take off).length = off := by simp; omega
  simp only [laidOver, List.getD_eq_getElem?_getD]
  by_cases h1 : i < off
  · rw [List.getElem?_append_left (by omega), if_neg (by omega), List.getElem?_take, if_pos h1]
  · rw [List.getElem?_append_right (by omega), ht]
    by_cases h2 : i < off + xs.length
    · rw [List.getElem?_append_left (by omega), if_pos (by omega)]
    · rw [List.getElem?_append_right (by omega), if_neg (by omega), List.getElem?_drop]
      congr 2
      omega
theorem wpList_copy_Row {P : Program} {ops : Array Oper} {rest : List Oper} {o : Oper} {a : Act} {w : World} {Q : Exit → Act → World → Prop}
    (hgd : o.guard = none) (d s : Operand) (dT sT : TypeId) (ho : o.op = .call { callee := .builtin .copy, args := #[d, s], argTypes := #[dT, sT] }) (e : TypeId) (hu : P.underlying dT = some (.slice e)) (hsz : (P.info? e).map (·.size) = some 1)
    (g off dLen dCap : Nat) (B : Nat) (A : Option Addr) (sLen sCap : Nat) (hd : a.eval d = .slice (some ⟨g, off, none⟩) dLen dCap) (hs : a.eval s = .slice A sLen sCap)
    (t : TypeId) (k : IntKind) (cur xs : List Int) (hr : Row w g t k cur) (hx : Ints w k B A sLen xs) (hfit : off + dLen ≤ cur.length)
    (h : ∀ w', Row w' g t k (laidOver cur off (xs.take (min sLen dLen))) → w.grownBy w' (some g) → Hid (w'.heap.size = w.heap.size) → wpList P ops Q rest (a.put o.dst (.int .i64 ((min sLen dLen : Nat) : Int))) w') : wpList P ops Q (o :: rest) a w := by
  obtain ⟨m, hm⟩ : ∃ m, min sLen dLen = m := ⟨_, rfl⟩
  rw [hm] at h
  have hlen : (xs.take m).length = m := by rw [List.length_take, hx.1]; omega
  by_cases h0 : m = 0
  · subst h0
    refine wpList_copy_nothing hgd d s dT sT ho e hu hsz _ A dLen dCap sLen sCap hd hs hm ?_
    exact h w (by rw [List.take_zero, laidOver_nil]; exact hr) (World.grownBy.refl _ _) (Lib.hid rfl)
  · obtain ⟨b, o2, rfl, _, hc⟩ := hx.2.2 (by omega)
    refine wpList_copy_own hgd d s dT sT ho e hu hsz g off dLen dCap ⟨b, o2, none⟩ sLen sCap hd hs (cur.map (Value.int k)).toArray t hr.2 ((xs.take m).map (Value.int k)) (by rw [List.length_map, hlen]; exact hm.symm)
      (fun j v hv => ?_) (by simp [hx.1]; omega) (by intro v hv; obtain ⟨z, _, rfl⟩ := List.mem_map.1 hv; rfl) ?_
    · have hj : j < m := by
        have := (List.getElem?_eq_some_iff.1 hv).1
        rw [List.length_map, hlen] at this
        exact this
      have e1 : (Addr.mk b o2 none).add j = ⟨b, o2 + j, none⟩ := by unfold Addr.add; split <;> simp_all
      rw [e1, hc j (by omega), ← hv]
      simp [List.getD_eq_getElem?_getD, hj, show j < xs.length by have := hx.1; omega]
    · have hcells : (((cur.map (Value.int k)).toArray.toList.take off ++ ((xs.take m).map (Value.int k) ++ (cur.map (Value.int k)).toArray.toList.drop (off + ((xs.take m).map (Value.int k)).length)))).toArray = arr k (laidOver cur off (xs.take m)) := by
        rw [List.length_map, hlen]
        simp [arr, laidOver, List.map_take, List.map_drop, hlen]
      rw [hcells, List.length_map, hlen]
      exact h _ (hr.setRow (fun z hz => by
        rcases laidOver_mem hz with h1 | h1
        · exact hr.1 z h1
        · exact hx.2.1 z (List.mem_of_mem_take h1))) (grown_setRow _ _ _) (Lib.hid (by simp))
section
variable {F : Fence} {n : Nat} {P : Program} {ops : Array Oper} {rest : List Oper} {o : Oper} {a : Act} {w : World} {Q : Exit → Act → World → Prop}
theorem run_alloc_arr (ty : TypeId) (k : IntKind) (m : Nat) (hz : (P.info? ty).bind (·.zero) = some (.agg (arr k (List.replicate m 0)))) (v : Value) :
    (Instr.alloc ty true v).run P w = .ok (.pointer (some ⟨w.heap.size, 0, none⟩)) (w.alloc (.cells (arr k (List.replicate m 0)) ty)) := by
  cases hi : P.info? ty with
  | none => simp [hi] at hz
  | some i =>
    simp only [hi, Option.bind_some] at hz
    simp [Instr.alloc, zeroValue, typeInfo, hi, hz, newVar, newRow, Value.cells]
theorem zeros_wf (k : IntKind) (m : Nat) : ∀ z ∈ List.replicate m (0 : Int), (Lit.int k z).wf = true := fun z hz => by rw [List.eq_of_mem_replicate hz]; cases k <;> decide
theorem wpList_alloc_Row (hgd : o.guard = none) (ty : TypeId) (ho : o.op = .alloc ty) (k : IntKind) (m : Nat) (hz : (P.info? ty).bind (·.zero) = some (.agg (arr k (List.replicate m 0))))
    (h : ∀ w', Row w' w.heap.size ty k (List.replicate m 0) → w.grownBy w' none → Hid (w'.heap.size = w.heap.size + 1) → wpList P ops Q rest (a.put o.dst (.pointer (some ⟨w.heap.size, 0, none⟩))) w') : wpList P ops Q (o :: rest) a w := by
  refine wpList_plain hgd fun K hK => ?_
  unfold Oper.wp execOp
  simp only [ho, run_alloc_arr ty k m hz, Sem.run_bind, Sem.run_pure, Result.andThen_ok]
  exact hK _ _ (h _ (Row.new w ty (zeros_wf k m)) (World.grownBy_alloc w _ none) (Lib.hid (by simp)))
theorem wpListIn_alloc_Row (hw : Region.wanted o (yielded ops a.tmps) = true) (ty : TypeId) (ho : o.op = .alloc ty) (k : IntKind) (m : Nat) (hz : (P.info? ty).bind (·.zero) = some (.agg (arr k (List.replicate m 0))))
    (h : ∀ w', Row w' w.heap.size ty k (List.replicate m 0) → w.grownBy w' none → Hid (w'.heap.size = w.heap.size + 1) → wpListIn F n P ops Q rest (a.put o.dst (.pointer (some ⟨w.heap.size, 0, none⟩))) w') : wpListIn F n P ops Q (o :: rest) a w := by
  refine wpListIn_step fun K hK => ?_
  rw [if_pos hw]
  unfold Oper.wpIn
  refine ⟨fun f hf => by simp [Oper.about, ho] at hf, ?_⟩
  rw [Oper.semAt_plain F _ _ (by rw [ho]; intro c hc'; cases hc')]
  unfold execOp
  simp only [ho, run_alloc_arr ty k m hz, Sem.run_bind, Sem.run_pure, Result.andThen_ok]
  exact hK _ _ (h _ (Row.new w ty (zeros_wf k m)) (World.grownBy_alloc w _ none) (Lib.hid (by simp)))
theorem wpList_box_Row (hgd : o.guard = none) (ty : TypeId) (x : Operand) (ho : o.op = .box ty x) (k : IntKind) (zs : List Int) (hx : a.eval x = .agg (arr k zs)) (hwf : ∀ z ∈ zs, (Lit.int k z).wf = true)
    (h : ∀ w', Row w' w.heap.size ty k zs → w.grownBy w' none → Hid (w'.heap.size = w.heap.size + 1) → wpList P ops Q rest (a.put o.dst (.pointer (some ⟨w.heap.size, 0, none⟩))) w') : wpList P ops Q (o :: rest) a w := by
  refine wpList_plain hgd fun K hK => ?_
  unfold Oper.wp execOp
  simp only [ho, hx, Sem.run_bind, Instr.box, newVar, newRow, run_newObj_alloc, Sem.run_pure, Result.andThen_ok]
  exact hK _ _ (h _ (Row.new w ty hwf) (World.grownBy_alloc w _ none) (Lib.hid (by simp)))
theorem wpListIn_box_Row (hw : Region.wanted o (yielded ops a.tmps) = true) (ty : TypeId) (x : Operand) (ho : o.op = .box ty x) (k : IntKind) (zs : List Int) (hx : a.eval x = .agg (arr k zs)) (hwf : ∀ z ∈ zs, (Lit.int k z).wf = true)
    (h : ∀ w', Row w' w.heap.size ty k zs → w.grownBy w' none → Hid (w'.heap.size = w.heap.size + 1) → wpListIn F n P ops Q rest (a.put o.dst (.pointer (some ⟨w.heap.size, 0, none⟩))) w') : wpListIn F n P ops Q (o :: rest) a w := by
  refine wpListIn_step fun K hK => ?_
  rw [if_pos hw]
  unfold Oper.wpIn
  refine ⟨fun f hf => by simp [Oper.about, ho] at hf, ?_⟩
  rw [Oper.semAt_plain F _ _ (by rw [ho]; intro c hc'; cases hc')]
  unfold execOp
  simp only [ho, hx, Sem.run_bind, Instr.box, newVar, newRow, run_newObj_alloc, Sem.run_pure, Result.andThen_ok]
  exact hK _ _ (h _ (Row.new w ty hwf) (World.grownBy_alloc w _ none) (Lib.hid (by simp)))
theorem wpList_store_RowTo (hgd : o.guard = none) (ty : TypeId) (x y : Operand) (ho : o.op = .store ty x y) (g : Nat) (hx : a.eval x = .pointer (some ⟨g, 0, none⟩)) (t : TypeId) (k : IntKind) (old zs : List Int) (hy : a.eval y = .agg (arr k zs))
    (hr : Row w g t k old) (m : Nat) (hi : (P.info? ty).map (·.size) = some m) (hn : zs.length = m) (ho' : old.length = m) (hwf : ∀ z ∈ zs, (Lit.int k z).wf = true)
    (h : ∀ w', Row w' g t k zs → w.grownBy w' (some g) → Hid (w'.heap.size = w.heap.size) → wpList P ops Q rest (a.put o.dst undef) w') : wpList P ops Q (o :: rest) a w :=
  wpList_store_Row hgd ty x y ho g hx t k old zs hy hr m hi hn ho' (h _ (hr.setRow hwf) (grown_setRow _ _ _) (Lib.hid (by simp)))
theorem wpListIn_store_RowTo (hw : Region.wanted o (yielded ops a.tmps) = true) (ty : TypeId) (x y : Operand) (ho : o.op = .store ty x y) (g : Nat) (hx : a.eval x = .pointer (some ⟨g, 0, none⟩)) (t : TypeId) (k : IntKind) (old zs : List Int) (hy : a.eval y = .agg (arr k zs))
    (hr : Row w g t k old) (m : Nat) (hi : (P.info? ty).map (·.size) = some m) (hn : zs.length = m) (ho' : old.length = m) (hwf : ∀ z ∈ zs, (Lit.int k z).wf = true)
    (h : ∀ w', Row w' g t k zs → w.grownBy w' (some g) → Hid (w'.heap.size = w.heap.size) → wpListIn F n P ops Q rest (a.put o.dst undef) w') : wpListIn F n P ops Q (o :: rest) a w :=
  wpListIn_store_Row hw ty x y ho g hx t k old zs hy hr m hi hn ho' (h _ (hr.setRow hwf) (grown_setRow _ _ _) (Lib.hid (by simp)))
end
theorem run_slice_arr_all {P : Program} (t e : TypeId) (n g : Nat) (w : World) (ht : P.underlying t = some (.array n e)) (hs : (P.info? e).map (·.size) = some 1) (hn : 0 < n) :
    (Instr.sliceAt t (.pointer (some ⟨g, 0, none⟩)) none none none).run P w = .ok (.slice (some ⟨g, 0, none⟩) n n) w := by
  have he : P.elem t = e := by simp [Program.elem, ht]
  have hl : P.arrayLen t = n := by simp [Program.arrayLen, ht]
  have ht' : P.underlying t = some (.array (P.arrayLen t) (P.elem t)) := by rw [he, hl]; exact ht
  obtain ⟨inf, hi, h1⟩ := Option.map_eq_some_iff.1 hs
  rw [run_sliceAt_array_all w t ⟨g, 0, none⟩ ht', he, hl]
  have hz : (sizeOf e).run P w = .ok 1 w := by simp [sizeOf, typeInfo, hi, h1]
  rw [hz]
  simp [Result.andThen, slicedAt, Addr.add]
end Go.Proofs.YtjelacblnjbfgaaGreatDoor.Mem
namespace Go.Proofs.YtjelacblnjbfgaaGreatDoor.Mac
open Go.RowKit Mem Help Go.Proofs.YtjelacblnjbfgaaGreatDoor.Sum Sha
attribute [local irreducible] wpList wpListIn
def fit (key : List Int) : List Int := if 64 < key.length then Sum.sha key else key
def blk (key : List Int) : List Int := fit key ++ List.replicate (64 - (fit key).length) 0
def flip (t x : Int) : Int := bits .xor .u8 x t
def turned (t : Int) (zs : List Int) : List Int := zs.map (flip t)
def tag (key msg : List Int) : List Int := Sum.sha (turned 92 (blk key) ++ Sum.sha (turned 54 (blk key) ++ msg))
theorem sha_length (zs : List Int) : (Sum.sha zs).length = 32 := out_length _
theorem sha_bytes (zs : List Int) : Bs (Sum.sha zs) := out_bytes _
theorem fit_length (key : List Int) : (fit key).length ≤ 64 := by
  unfold fit
  split
  · rw [sha_length]; omega
  · omega
theorem blk_length (key : List Int) : (blk key).length = 64 := by have := fit_length key; simp [blk]; omega
theorem wf_of_byte {z : Int} (h : 0 ≤ z ∧ z ≤ 255) : (Lit.int .u8 z).wf = true := by simp [Lit.wf, IntKind.min, IntKind.max, IntKind.signed, IntKind.bits]; omega
theorem fit_bytes {key : List Int} (h : Bs key) : Bs (fit key) := by
  unfold fit
  split
  · exact sha_bytes _
  · exact h
theorem blk_bytes {key : List Int} (h : Bs key) : Bs (blk key) := fun z hz => by
  rcases List.mem_append.1 hz with h1 | h1
  · exact fit_bytes h z h1
  · rw [List.eq_of_mem_replicate h1]; omega
theorem flip_wf (t x : Int) : (Lit.int .u8 (flip t x)).wf = true := wf_bits _ _ _ _
theorem turned_length (t : Int) (zs : List Int) : (turned t zs).length = zs.length := by simp [turned]
theorem turned_wf (t : Int) (zs : List Int) : ∀ z ∈ turned t zs, (Lit.int .u8 z).wf = true := fun z hz => by
  obtain ⟨x, _, rfl⟩ := List.mem_map.1 hz
  exact flip_wf _ _
theorem turned_bytes (t : Int) (zs : List Int) : Bs (turned t zs) := fun z hz => wf_u8 (turned_wf t zs z hz)
theorem tag_length (key msg : List Int) : (tag key msg).length = 32 := sha_length _
theorem tag_bytes (key msg : List Int) : Bs (tag key msg) := sha_bytes _
def part (t : Int) (zs : List Int) (k : Nat) : List Int := turned t (zs.take k) ++ zs.drop k
theorem part_start (t : Int) (zs : List Int) : part t zs 0 = zs := by simp [part, turned]
theorem part_end (t : Int) (zs : List Int) {k : Nat} (h : zs.length ≤ k) : part t zs k = turned t zs := by simp [part, List.take_of_length_le h, List.drop_of_length_le h]
theorem part_get (t : Int) (zs : List Int) {k : Nat} (h : k < zs.length) : (part t zs k).getD k 0 = zs.getD k 0 := by
  have hl : (turned t (zs.take k)).length = k := by rw [turned_length, List.length_take]; omega
  rw [part, List.getD_eq_getElem?_getD, List.getElem?_append_right (by omega), hl, List.getElem?_drop]
  simp [List.getD_eq_getElem?_getD]
theorem part_set (t : Int) (zs : List Int) {k : Nat} (h : k < zs.length) : (part t zs k).set k (flip t (zs.getD k 0)) = part t zs (k + 1) := by
  have hl : (turned t (zs.take k)).length = k := by rw [turned_length, List.length_take]; omega
  unfold part
  rw [List.set_append_right _ _ (by omega), hl, Nat.sub_self, List.drop_eq_getElem_cons h, List.set_cons_zero, List.take_succ_eq_append_getElem h]
  rw [show turned t (zs.take k ++ [zs[k]]) = turned t (zs.take k) ++ [flip t zs[k]] by rw [turned, List.map_append]; rfl, List.append_assoc, List.getD_eq_getElem?_getD, List.getElem?_eq_getElem h]
  rfl
theorem info_64m : (Tryz.prog.info? 88).map (·.size) = some 64 := by kernel_rfl
theorem fit_over {key : List Int} : laidOver (List.replicate 64 0) 0 (fit key) = blk key := by
  rw [laidOver, List.take_zero, List.nil_append, Nat.zero_add, List.drop_replicate, blk]
theorem zero_64 : (Tryz.prog.info? 88).bind (·.zero) = some (.agg (arr .u8 (List.replicate 64 0))) := by kernel_rfl
theorem zero_32 : (Tryz.prog.info? 22).bind (·.zero) = some (.agg (arr .u8 (List.replicate 32 0))) := by kernel_rfl
set_option maxRecDepth 100000 in
set_option maxHeartbeats 4000000 in
theorem fitted_any (B : Nat) (A : Option Addr) (n c : Nat) (zs : List Int) (w : World) (h : Ints w .u8 B A n zs) (hB : B ≤ w.heap.size) (hc : n ≤ c) (hc' : c ≤ maxLen) (hn : n ≤ 1099511627776)
    (hT0 : Tab w 2 Sum.H0) (hT1 : Tab w 3 Sum.K) :
    Calls Tryz.prog 112 #[.slice A n c] w fun e w' => e = .returned (.agg (arr .u8 (blk zs))) ∧ Below w.heap.size w w' := by
  have hL := h.1
  have hsl32 := fun W g => run_slice_arr_all (P := Tryz.prog) 22 5 32 g W Tryz.underlying22 (by kernel_rfl) (by omega)
  have hsl64 := fun W g => run_slice_arr_all (P := Tryz.prog) 88 5 64 g W Tryz.underlying88 (by kernel_rfl) (by omega)
  have HB := Lib.hid (blk_length zs)
  by_cases hbig : 64 < n
  · have hbig' : (64 : Int) < (n : Int) := by omega
    have hfit : fit zs = Sum.sha zs := by unfold fit; rw [if_pos (by omega)]
    have HF := Lib.hid hfit
    clear hL hfit
    go_enter Tryz.func112, Tryz.ntmps112
    go_wp2_with (refine wpList_alloc_Row rfl 88 rfl .u8 64 zero_64 ?_; intro w0 r0 g0 z0)
    have b0 : Below w.heap.size w w0 := (Below.refl _ w).grown g0 (Nat.le_refl _) (by simp)
    have s0 : w.heap.size < w0.heap.size := r0.lt
    refine (sum_one _ B A n _ c zs (h.below (b0.mono hB)) (by omega) hc hc' hn (hT0.below b0 hT0.lt) (hT1.below b0 hT1.lt)).mono ?_
    rintro e w1 ⟨rfl, hb1⟩
    have b1 := b0.trans (hb1.mono (by omega))
    have s1 := hb1.size
    have r1 := r0.below hb1 (by omega)
    clear hb1 b0 hT0 hT1 h
    go_wp2_with (first
      | (refine wpList_alloc_Row rfl 22 rfl .u8 32 zero_32 ?_; intro w2 r2 g2 z2)
      | (refine wpList_store_RowTo rfl 22 _ _ rfl w1.heap.size rfl 22 .u8 _ (Sum.sha zs) rfl r2 32 info_32 (sha_length _) (by simp) (fun z hz => wf_of_byte (sha_bytes _ z hz)) ?_; intro wX r3 g3 z3; have iX := r3.ints (n := 32) (by rw [sha_length]; omega); rw [List.take_of_length_le (by rw [sha_length]; omega), ← HF.out] at iX; have rX := (r1.grown g2 (by simp)).grown g3 (by intro e; injection e with e; omega); have lX := rX.lt)
      | (refine wpList_alloc_Row rfl 88 rfl .u8 64 zero_64 ?_; intro w5 r5 g5 z5; have jX := iX.keep (w' := w5) fun p hp => World.cell?_of_block (g5.block _ hp (by simp)); have r5X := rX.grown g5 (by simp))
      | (refine wpList_copy_Row rfl _ _ 27 27 rfl 5 Tryz.underlying27 (by kernel_rfl) wX.heap.size 0 64 64 wX.heap.size (some ⟨w1.heap.size, 0, none⟩) 32 32 rfl rfl 88 .u8 _ (fit zs) r5 jX (by simp) ?_; intro w6 r6 g6 z6; rw [List.take_of_length_le (by rw [iX.1]; omega), fit_over] at r6; have r6X := r5X.grown g6 (by intro e; injection e with e; omega))
      | (refine wpList_load_Row rfl 88 _ rfl wX.heap.size rfl 88 .u8 _ r6 64 5 Tryz.underlying88 info_64m HB.out ?_)
      | (refine wpList_store_RowTo rfl 88 _ _ rfl w.heap.size rfl 88 .u8 _ (blk zs) rfl r6X 64 info_64m HB.out (by simp) r6.1 ?_; intro w7 r7 g7 z7))
    have bX : Below w.heap.size w wX := (b1.grown g2 b1.size (by simp)).grown g3 (by have := g2.size; omega) (fun r e => by cases e; omega)
    have b7 : Below w.heap.size w w7 := ((bX.grown g5 bX.size (by simp)).grown g6 (by have := g5.size; omega) (fun r e => by cases e; omega)).grown g7 (by have := g5.size; have := g6.size; omega) (fun r e => by cases e; omega)
    exact bodyPost_ret (results_Row rfl _ _ w.heap.size _ _ _ rfl r7 64 5 Tryz.underlying88 info_64m HB.out) rfl ⟨rfl, b7⟩
  · have hbig' : ¬ (64 : Int) < (n : Int) := by omega
    have hfit : fit zs = zs := by unfold fit; rw [if_neg (by omega)]
    have HF := Lib.hid hfit
    clear hL hfit
    go_enter Tryz.func112, Tryz.ntmps112
    go_wp2_with (first
      | (refine wpList_alloc_Row (w := w) rfl 88 rfl .u8 64 zero_64 ?_; intro wX rX gX zX; have lX := rX.lt; have iX := h.keep (w' := wX) fun p hp => World.cell?_of_block (gX.block _ (by omega) (by simp)))
      | (refine wpList_alloc_Row (w := wX) rfl 88 rfl .u8 64 zero_64 ?_; intro w5 r5 g5 z5; have jX := iX.keep (w' := w5) fun p hp => World.cell?_of_block (g5.block _ (by omega) (by simp)); have r5X := rX.grown g5 (by simp))
      | (refine wpList_copy_Row rfl _ _ 27 27 rfl 5 Tryz.underlying27 (by kernel_rfl) wX.heap.size 0 64 64 B A n c rfl rfl 88 .u8 _ zs r5 jX (by simp) ?_; intro w6 r6 g6 z6; rw [List.take_of_length_le (by rw [h.1]; omega), ← HF.out, fit_over] at r6; have r6X := r5X.grown g6 (by intro e; injection e with e; omega))
      | (refine wpList_load_Row rfl 88 _ rfl wX.heap.size rfl 88 .u8 _ r6 64 5 Tryz.underlying88 info_64m HB.out ?_)
      | (refine wpList_store_RowTo rfl 88 _ _ rfl w.heap.size rfl 88 .u8 _ (blk zs) rfl r6X 64 info_64m HB.out (by simp) r6.1 ?_; intro w7 r7 g7 z7))
    have bX : Below w.heap.size w wX := (Below.refl _ w).grown gX (Nat.le_refl _) (by simp)
    have b7 : Below w.heap.size w w7 := ((bX.grown g5 bX.size (by simp)).grown g6 (by have := g5.size; omega) (fun r e => by cases e; omega)).grown g7 (by have := g5.size; have := g6.size; omega) (fun r e => by cases e; omega)
    exact bodyPost_ret (results_Row rfl _ _ w.heap.size _ _ _ rfl r7 64 5 Tryz.underlying88 info_64m HB.out) rfl ⟨rfl, b7⟩
end Go.Proofs.YtjelacblnjbfgaaGreatDoor.Mac
namespace Go.Proofs.YtjelacblnjbfgaaGreatDoor.Mac
open Go.RowKit Go.Shelf Mem Help Go.Proofs.YtjelacblnjbfgaaGreatDoor.Sum Sha Go.Proofs.YtjelacblnjbfgaaGreatDoor.Range
attribute [local go_sem] Oper.semAt_some
theorem behind_any (A0 A : Option Addr) (n0 c0 m c : Nat) (w : World) :
    Calls Tryz.prog 120 #[.slice A0 n0 c0, .slice A m c] w fun e w' => e = .returned (.func (.func 124) #[] #[.pointer (some ⟨w.heap.size, 0, none⟩), .pointer (some ⟨w.heap.size + 1, 0, none⟩)]) ∧
      w' = (w.alloc (.cells #[.slice A0 n0 c0] 27)).alloc (.cells #[.slice A m c] 89) := by
  go_enter Tryz.func120, Tryz.ntmps120
  go_wp2
  go_ret
  exact ⟨rfl, rfl⟩
def ValsN (w : World) (S : Nat → Prop) (A : Option Addr) (n : Nat) (vs : List Value) : Prop :=
  vs.length = n ∧ (0 < n → ∃ b off, A = some ⟨b, off, none⟩ ∧ ¬ S b ∧ ∀ i, i < n → w.cell? ⟨b, off + i, none⟩ = some (vs.getD i undef))
theorem ValsN.only {S : Nat → Prop} {w w' : World} {A : Option Addr} {n : Nat} {vs : List Value} (h : ValsN w S A n vs) (ho : Only S w w') : ValsN w' S A n vs :=
  ⟨h.1, fun hn => by
    obtain ⟨b, off, e, hb, hc⟩ := h.2 hn
    exact ⟨b, off, e, hb, fun i hi => ho.cell (p := ⟨b, off + i, none⟩) hb (hc i hi)⟩⟩
theorem ValsN.of {S : Nat → Prop} {w : World} {B : Nat} {A : Option Addr} {n : Nat} {vs : List Value} (h : Vals w B A n vs) (hB : ∀ b, b < B → ¬ S b) : ValsN w S A n vs :=
  ⟨h.1, fun hn => by
    obtain ⟨b, off, e, hb, hc⟩ := h.2.2 hn
    exact ⟨b, off, e, hB b hb, hc⟩⟩
theorem ValsN.below {S : Nat → Prop} {w w' : World} {A : Option Addr} {n : Nat} {vs : List Value} (h : ValsN w S A n vs) (hb : Below w.heap.size w w') : ValsN w' S A n vs :=
  ⟨h.1, fun hn => by
    obtain ⟨b, off, e, hS, hc⟩ := h.2 hn
    exact ⟨b, off, e, hS, fun i hi => (hb.cell (p := ⟨b, off + i, none⟩) (World.block_lt_of_cell? w _ (hc i hi))).trans (hc i hi)⟩⟩
theorem take_cons_prefix (v0 : Value) (vs : List Value) {k : Nat} (hk : k < vs.length) : (v0 :: vs.take k) ++ [vs.getD k undef] = v0 :: vs.take (k + 1) := by
  rw [List.cons_append, List.take_succ_eq_append_getElem hk, List.getD_eq_getElem?_getD, List.getElem?_eq_getElem hk]
  rfl
set_option maxRecDepth 100000 in
set_option maxHeartbeats 2000000 in
theorem behind_far (n b1 b2 : Nat) (S : Nat → Prop) (v0 : Value) (A : Option Addr) (m c : Nat) (vs : List Value) (w : World) (h1 : w.cell? ⟨b1, 0, none⟩ = some v0) (h2 : w.cell? ⟨b2, 0, none⟩ = some (.slice A m c)) (hS1 : ¬ S b1) (hS2 : ¬ S b2)
    (ho : v0.oneCell' = true) (hv1 : ∀ v ∈ vs, v.oneCell' = true) (hv : ValsN w S A m vs) (hm : m ≤ 1073741824) :
    SeqFar Fence.wide n Tryz.prog 124 #[.pointer (some ⟨b1, 0, none⟩), .pointer (some ⟨b2, 0, none⟩)] (fun v => #[v]) (Only S) (v0 :: vs) w := by
  intro l J W hW hJ hY h0
  have k1 := (hW.cell (p := ⟨b1, 0, none⟩) (World.block_lt_of_cell? w _ h1)).trans h1
  have k2 := (hW.cell (p := ⟨b2, 0, none⟩) (World.block_lt_of_cell? w _ h2)).trans h2
  have kv := hv.below hW
  have HL := Lib.hid hv.1
  clear h1 h2 hv
  obtain ⟨fn, tmps, assign, body, hy, hR⟩ := hY [] v0 _ h0 ⟨vs, rfl⟩
  refine callsIn_of_wp Tryz.func124 rfl trivial ?_ rfl
  simp only [Tryz.ntmps124, List.size_toArray, List.length_cons, List.length_nil, Nat.reduceAdd, Nat.reduceSub, Array.replicate_succ, Array.replicate_zero, List.push_toArray, List.append_toArray, List.nil_append, List.cons_append]
  gi_wp2_with fail
  refine ⟨fun h => (by cases h), ?_⟩
  refine hR.mono ?_
  rintro e W1 ⟨rfl, J1, o1⟩
  have q2 := o1.cell (p := ⟨b2, 0, none⟩) hS2 k2
  have qv := kv.only o1
  clear hy hR k1 k2 kv h0 o1
  have hmi : (m : Int) ≤ 1073741824 := by omega
  gi_wp2_with fail
  gi_loopw [12] (fun i wr => ∃ k : Nat, k ≤ m ∧ i = .int .i64 k ∧ J (v0 :: vs.take k) wr ∧ Only S W1 wr) (fun i _ => m - (intOf i).toNat)
  case atStart => exact ⟨0, by omega, rfl, by simpa using J1, Only.refl _ _⟩
  case round =>
    obtain ⟨k, hk, rfl, Jk, ok⟩ := hrel
    by_cases hlt : k < m
    · obtain ⟨b, off, rfl, hbS, hc⟩ := (qv.only ok).2 (by omega)
      have hck := hc k hlt
      have hkl : k < vs.length := by rw [HL.out]; exact hlt
      have HP := Lib.hid (take_cons_prefix v0 vs hkl)
      have h1c := hv1 (vs.getD k undef) (by rw [List.getD_eq_getElem?_getD, List.getElem?_eq_getElem hkl]; exact List.getElem_mem hkl)
      generalize vs.getD k undef = v at hck HP h1c
      have hpre : (v0 :: vs.take k) ++ [v] <+: v0 :: vs := by rw [HP.out]; exact List.cons_prefix_cons.2 ⟨rfl, List.take_prefix _ _⟩
      obtain ⟨fn, tmps, assign, body, hy, hR⟩ := hY (v0 :: vs.take k) v wr Jk hpre
      have hlt' : (k : Int) < (m : Int) := by omega
      have hk0 : (0 : Int) ≤ (k : Int) := by omega
      clear hpre hc
      gi_wp2_with fail
      refine ⟨fun h => (by cases h), ?_⟩
      refine hR.mono ?_
      rintro e W4 ⟨rfl, J4, o4⟩
      rw [HP.out] at J4
      gi_wp2_with fail
      go_roundw
      case rel => exact ⟨k + 1, by omega, by go_num, J4, ok.trans o4⟩
      case measure => simp [intOf]; omega
    · have hkm : k = m := by omega
      subst hkm
      rw [List.take_of_length_le (by rw [HL.out]; omega)] at Jk
      gi_wp2_with fail
      go_end0
      exact ⟨⟨_, rfl⟩, Jk⟩
end Go.Proofs.YtjelacblnjbfgaaGreatDoor.Mac
namespace Go.Proofs.YtjelacblnjbfgaaGreatDoor.Mac
open Go.RowKit Go.Shelf Mem Help Go.Proofs.YtjelacblnjbfgaaGreatDoor.Sum Sha Go.Proofs.YtjelacblnjbfgaaGreatDoor.Range
attribute [local go_sem] Oper.semAt_some
theorem _root_.Go.Proofs.YtjelacblnjbfgaaGreatDoor.Sha.Texts.slice {w : World} {B : Nat} {vs : List Value} {xss : List (List Int)} (h : Texts w B vs xss) {v : Value} (hv : v ∈ vs) : ∃ A n c, v = .slice A n c := by
  obtain ⟨i, hi, rfl⟩ := List.mem_iff_getElem.1 hv
  obtain ⟨A, n, c, e, _⟩ := h.2 i hi
  rw [List.getD_eq_getElem?_getD, List.getElem?_eq_getElem hi] at e
  exact ⟨A, n, c, e⟩
def Inv (w : World) (q g lb m : Nat) (zs : List Int) (pre : List Value) (W : World) : Prop :=
  W.heap[lb]? = some (.cells #[.slice (some ⟨g, 0, none⟩) pre.length (m + 1)] 89 (0, 0)) ∧ W.ownsRow w.heap.size 27 1 (.slice (some ⟨g, 0, none⟩) pre.length (m + 1)) pre.length pre ∧
    Row W w.heap.size 88 .u8 zs ∧ Row W q 22 .u8 (List.replicate 32 0) ∧ Below w.heap.size w W
theorem Inv.far (w : World) (q g lb m : Nat) (zs : List Int) {B : Nat} (hw : w.heap.size < B) (hq : q < B) (hg : g < B) (hl : lb < B) (hwg : w.heap.size ≤ g) : Far B (Inv w q g lb m zs) := by
  intro pre W W' row h hgr hr
  have hne : ∀ i, i < B → some i ≠ row := fun i hi e => by have := hr i e.symm; omega
  obtain ⟨h1, h2, h3, h4, h5⟩ := h
  refine ⟨(hgr.block lb (Array.getElem?_eq_some_iff.1 h1).1 (hne _ hl)).trans h1, h2.kept hgr (.inr (hne _ hg)), h3.grown hgr (hne _ hw), h4.grown hgr (hne _ hq), h5.grown hgr (by have := h3.lt; omega) (fun r e => by have := hr r e; omega)⟩
set_option maxRecDepth 100000 in
set_option maxHeartbeats 4000000 in
theorem keyed_any (t : Int) (zs : List Int) (B : Nat) (A : Option Addr) (m c : Nat) (vs : List Value) (xss : List (List Int)) (w : World) (hz : zs.length = 64) (hzb : Bs zs) (h : Vals w B A m vs) (ht : Texts w B vs xss) (hB : B ≤ w.heap.size) (hm : m ≤ 1048576) (hn : xss.flatten.length ≤ 549755813888)
    (hb : Bs xss.flatten) (hT0 : Tab w 2 Sum.H0) (hT1 : Tab w 3 Sum.K) :
    Calls Tryz.prog 113 #[.agg (arr .u8 zs), .int .u8 t, .slice A m c] w fun e w' => e = .returned (.agg (arr .u8 (Sum.sha (turned t zs ++ xss.flatten)))) ∧ Below w.heap.size w w' := by
  refine (callsIn_wide (n := 3)).1 ?_
  refine callsIn_of_wp_marks Tryz.func113 rfl trivial ?_ rfl
  simp only [Tryz.ntmps113, List.size_toArray, List.length_cons, List.length_nil, Nat.reduceAdd, Nat.reduceSub, Array.replicate_succ, Array.replicate_zero, List.push_toArray, List.append_toArray, List.nil_append, List.cons_append]
  have HZ := Lib.hid hz
  clear hz
  gi_wp2_with (first
    | (refine wpListIn_box_Row rfl 88 _ rfl .u8 zs rfl (fun z hz => wf_of_byte (hzb z hz)) ?_; intro w1 r1 g1 z1)
    | (refine wpListIn_alloc_Row rfl 22 rfl .u8 32 zero_32 ?_; intro w2 r2 g2 z2))
  obtain ⟨q, hq⟩ : ∃ q, w1.heap.size = q := ⟨_, rfl⟩
  have hqw : q = w.heap.size + 1 := by rw [← hq, z1.out]
  rw [hq] at r2 ⊢
  have HQ := Lib.hid hqw
  have b2 : Below w.heap.size w w2 := ((Below.refl _ w).grown g1 (Nat.le_refl _) (by simp)).grown g2 (by have := g1.size; omega) (by simp)
  have r12 := r1.grown g2 (by simp)
  clear hqw hq r1 g1 g2 z1 z2
  gi_loopw [10] (fun i wr => ∃ k : Nat, k ≤ 64 ∧ i = .int .i64 k ∧ Row wr w.heap.size 88 .u8 (part t zs k) ∧ Row wr q 22 .u8 (List.replicate 32 0) ∧ Below w.heap.size w wr) (fun i _ => 64 - (intOf i).toNat)
  case atStart => exact ⟨0, by omega, rfl, by rw [part_start]; exact r12, r2, b2⟩
  case round =>
    clear r12 r2 b2 w1 w2
    obtain ⟨k, hk, rfl, rk, ro, bk⟩ := hrel
    by_cases hlt : k < 64
    · have hkz : k < zs.length := by rw [HZ.out]; exact hlt
      have hc := rk.cell (i := k) (by simp [part, turned]; omega)
      have hf := rk.frozen k
      rw [part_get t zs hkz] at hc
      have HS : Hid (Row (wr.setCell ⟨w.heap.size, k, none⟩ (.int .u8 (flip t (zs.getD k 0)))) w.heap.size 88 .u8 (part t zs (k + 1))) := Lib.hid (by rw [← part_set t zs hkz]; exact rk.set k (flip_wf _ _))
      unfold flip at HS
      have hlt' : (k : Int) < 64 := by omega
      have hk0 : (0 : Int) ≤ (k : Int) := by omega
      have hne : q ≠ w.heap.size := by have := HQ.out; omega
      generalize zs.getD k 0 = x at hc HS
      gi_wp2_with fail
      go_roundw
      case rel => exact ⟨k + 1, by omega, by go_num, HS.out, ro.other (by simpa using hne.symm) _, bk.setCell (by simp) _⟩
      case measure => simp [intOf]; omega
    · have hk64 : k = 64 := by omega
      subst hk64
      rw [part_end t zs (by rw [HZ.out]; omega)] at rk
      have hmi : (m : Int) ≤ 1048576 := by omega
      have hsl64 := fun W => run_slice_arr_all (P := Tryz.prog) 88 5 64 w.heap.size W Tryz.underlying88 (by kernel_rfl) (by omega)
      obtain ⟨i0, hi0, hz0, hs0, hb0⟩ := info_parts info_bytes
      gi_wp2_with (refine wpListIn_make_own _ rfl _ _ 89 rfl w.heap.size 27 i0 (.slice none 0 0) 1 Tryz.underlying89 hi0 hz0 hs0 .i64 .i64 _ (m + 1) rfl rfl (by omega) (by rw [hb0]; omega) (by unfold maxLen; omega) bk.size ?_; intro w3 hown3 hg3)
      obtain ⟨g, hg⟩ : ∃ g, wr.heap.size = g := ⟨_, rfl⟩
      have hqg : q < g := by rw [← hg]; exact ro.lt
      rw [hg] at hown3 ⊢
      have hgl := (hown3.lt g rfl).2
      obtain ⟨lb, hlb⟩ : ∃ lb, w3.heap.size = lb := ⟨_, rfl⟩
      have rk3 := rk.grown hg3 (by simp)
      have ro3 := ro.grown hg3 (by simp)
      have b3 : Below w.heap.size w w3 := bk.grown hg3 bk.size (by simp)
      rw [hlb] at hgl ⊢
      have HLB := Lib.hid hlb
      clear hg hlb hg3 rk ro bk hi0 hz0 hs0 hb0
      refine ⟨trivial, ?_⟩
      refine (callsIn_wide.2 (behind_any _ A 64 64 m c _)).mono ?_
      rintro e W5 ⟨rfl, hW5⟩
      rw [World.size_alloc, HLB.out]
      have hwq := HQ.out
      have z5 : W5.heap.size = lb + 3 := by rw [hW5]; simp [HLB.out]
      have k1 : W5.cell? ⟨lb + 1, 0, none⟩ = some (.slice (some ⟨w.heap.size, 0, none⟩) 64 64) := by rw [hW5, World.cell?_alloc_lt _ _ _ (by simp; have := HLB.out; omega), World.cell?_alloc_at _ _ _ _ (by simp; exact HLB.out.symm)]; rfl
      have k2 : W5.cell? ⟨lb + 2, 0, none⟩ = some (.slice A m c) := by rw [hW5, World.cell?_alloc_at _ _ _ _ (by simp; have := HLB.out; omega)]; rfl
      have k0 : W5.heap[lb]? = some (.cells #[.slice (some ⟨g, 0, none⟩) 0 (m + 1)] 89 (0, 0)) := by
        rw [hW5, Below.heap_alloc _ _ _ (by simp; have := HLB.out; omega), Below.heap_alloc _ _ _ (by simp; have := HLB.out; omega), ← HLB.out]
        exact heap_alloc_new w3 _
      have i5 : Inv w q g lb m (turned t zs) [] W5 := by
        rw [hW5] at k0 ⊢
        exact ⟨k0, ((hown3.alloc _).alloc _).alloc _, ((rk3.alloc _).alloc _).alloc _, ((ro3.alloc _).alloc _).alloc _, ((b3.alloc b3.size _).alloc (by simp; have := b3.size; omega) _).alloc (by simp; have := b3.size; omega) _⟩
      have b5 := i5.2.2.2.2
      have hSlt : ∀ b, b < B → ¬ (b = g ∨ b = lb) := fun b hb e => by omega
      have hit := fun n => behind_far n (lb + 1) (lb + 2) (fun b => b = g ∨ b = lb) (.slice (some ⟨w.heap.size, 0, none⟩) 64 64) A m c vs W5 k1 k2 (by omega) (by omega) rfl ht.one_cell (ValsN.of (h.below (b5.mono hB)) hSlt) (by omega)
      have far : ∀ B', lb < B' → Far B' (Inv w q g lb m (turned t zs)) := fun B' h => Inv.far w q g lb m _ (by omega) (by omega) (by omega) h (by omega)
      have Z5 := Lib.hid z5
      have hwg : w.heap.size < g := by omega
      have hwl : w.heap.size < lb := by omega
      have hgb : g ≠ lb := by omega
      clear hW5 k1 k2 k0 hown3 rk3 ro3 b3 z5 hwq
      gi_wp2_with fail
      refine wpIn_rangeFunc_far rfl (by omega) (gf := 124) (lb := #[.pointer (some ⟨lb + 1, 0, none⟩), .pointer (some ⟨lb + 1 + 1, 0, none⟩)]) rfl trivial (enters_of Tryz.func124 (by kernel_rfl) rfl)
        (hit _) (fun h k => h.trans k) (fun W l o o' hl ho hc _ => Only.put W l o o' ho hc) (Below.refl _ _) (fun _ => rfl)
        (Inv w q g lb m (turned t zs)) (far _ (by have := Z5.out; omega)) i5
        (fun x a' pre W => Inv w q g lb m (turned t zs) pre W ∧ a' = { tmps := #[.agg (arr .u8 zs), .int .u8 t, .slice A m c, .pointer (some ⟨w.heap.size, 0, none⟩), undef, undef, .pointer (some ⟨q, 0, none⟩), u7, .pointer (some ⟨lb, 0, none⟩), x, .int .i64 64, .bool false, u12, u13, u14, u15, u16, u17, u18, u19, .slice A m c, .int .i64 (m : Int), .int .i64 (1 + (m : Int)), .slice (some ⟨g, 0, none⟩) 0 (m + 1), .slice (some ⟨w.heap.size, 0, none⟩) 64 64, .slice A m c, .func (.func 124) #[] #[.pointer (some ⟨lb + 1, 0, none⟩), .pointer (some ⟨lb + 1 + 1, 0, none⟩)], x, undef, undef, undef, undef, undef, undef], defers := [] }) ?ib ?assign ?body ?done
      case ib =>
        rintro x a' pre W W' row ⟨hi, h3⟩ hgr hr
        exact ⟨far (lb + 1) (by omega) pre W W' row hi hgr (fun r e => by have := (hr r e).1; have := Z5.out; omega), h3⟩
      case assign =>
        intro l pre x W K hi hp hsz hK
        gi_wp2_with fail
        exact hK _ _ (KeepsOthers.refl _) (Only.refl _ _) ⟨hi, rfl⟩
      case body =>
        rintro l pre x a' W ⟨⟨i1, i2, i3, i4, ib⟩, rfl⟩ hp hsz
        have hx := List.IsPrefix.length_le hp
        have hpl : pre.length + 1 ≤ m + 1 := by simpa [h.1] using hx
        have hxm : x ∈ (Value.slice (some ⟨w.heap.size, 0, none⟩) 64 64) :: vs := hp.subset (by simp)
        obtain ⟨Ax, nx, cx, rfl⟩ : ∃ Ax nx cx, x = .slice Ax nx cx := by
          rcases List.mem_cons.1 hxm with rfl | hxm
          · exact ⟨_, _, _, rfl⟩
          · exact ht.slice hxm
        have hc := cell_of_one i1
        have hf := free_of_one i1
        have hlw : lb < W.heap.size := (Array.getElem?_eq_some_iff.1 i1).1
        obtain ⟨p, hpp⟩ : ∃ p, pre.length = p := ⟨_, rfl⟩
        rw [hpp] at i1 i2 hc hpl
        have HPP := Lib.hid hpp
        obtain ⟨i0, hi0, hz0, hs0, hb0⟩ := info_parts info_bytes
        have hcx : ∀ (j : Nat) (u : Value), [Value.slice Ax nx cx][j]? = some u → (W.alloc (.cells #[.slice Ax nx cx] 27)).cell? ((⟨W.heap.size, 0, none⟩ : Addr).add j) = some u := fun j u hu => by
          cases j with
          | zero =>
            simp at hu
            subst hu
            rw [show (Addr.mk W.heap.size 0 none).add 0 = ⟨W.heap.size, 0, none⟩ by simp [Addr.add], World.cell?_alloc_at #[.slice Ax nx cx] 27 _ 0 rfl]
            rfl
          | succ j => simp at hu
        have hx1' : ∀ u ∈ [Value.slice Ax nx cx], u.oneCell' = true := fun u hu => by rw [List.mem_singleton.1 hu]; rfl
        have HCX := Lib.hid hcx
        have HX1 := Lib.hid hx1'
        clear hx hxm hp hpp hcx hx1'
        simp only []
        gi_wp2_with (refine wpListIn_append_fits _ rfl _ _ 89 rfl w.heap.size 27 i0 1 Tryz.underlying89 hi0 hs0 g p (m + 1) pre rfl (i2.alloc (.cells #[.slice Ax nx cx] 27)) ⟨W.heap.size, 0, none⟩ 1 1 [.slice Ax nx cx] rfl rfl HCX.out HX1.out (by omega) ?_; intro w6 hown6 hg6; have l6 : w6.heap[lb]? = some (.cells #[.slice (some ⟨g, 0, none⟩) p (m + 1)] 89 (0, 0)) := ((hg6.block lb (by simp; omega) (by intro e; injection e with e; omega)).trans (Below.heap_alloc W _ lb hlw)).trans i1; have f6 := free_of_one l6; have c6 := cell_of_one l6)
        have hgW := i2.2
        obtain ⟨cur, hcur⟩ : ∃ cur, W.heap[g]? = some (.cells cur 27 (0, 0)) := by
          rcases i2.2 with ⟨e, _⟩ | ⟨g', cap, cur, e, _, hgg, _⟩
          · cases e
          · injection e with e1
            injection e1 with e1
            injection e1 with e1
            subst e1
            exact ⟨cur, hgg⟩
        have hgw : g < W.heap.size := (Array.getElem?_eq_some_iff.1 hcur).1
        have ga := World.grownBy_alloc W (.cells #[.slice Ax nx cx] 27) none
        have gs := grown_setCell w6 lb 0 (.slice (some ⟨g, 0, none⟩) (p + 1) (m + 1))
        have hs6 := hg6.size
        rw [World.size_alloc] at hs6
        refine ⟨((KeepsOthers.alloc _ _).trans (KeepsOthers.of_grownBy hg6 (fun j o e ho => ?_))).trans (KeepsOthers.of_grownBy gs (fun j o e ho => ?_)),
          ((Only.of_grown ga (fun r e => by cases e)).trans (Only.of_grown hg6 (fun r e => by cases e; exact .inl rfl))).trans (Only.of_grown gs (fun r e => by cases e; exact .inr rfl)), ?_, ?_, ?_, ?_, ?_⟩
        · cases e
          rw [Below.heap_alloc W _ g hgw, hcur] at ho
          cases ho
          rfl
        · cases e
          rw [l6] at ho
          cases ho
          rfl
        · rw [List.length_append, HPP.out]
          exact one_setCell l6
        · rw [List.length_append, HPP.out]
          exact hown6.kept gs (.inr (fun e => by have e : some g = some lb := e; injection e with e; omega))
        · exact ((i3.alloc _).grown hg6 (fun e => by injection e with e; omega)).grown gs (fun e => by injection e with e; omega)
        · exact ((i4.alloc _).grown hg6 (fun e => by injection e with e; omega)).grown gs (fun e => by injection e with e; omega)
        · exact ((ib.alloc ib.size _).grown hg6 (by have := ib.size; simp; omega) (fun r e => by cases e; omega)).grown gs (by have := ib.size; omega) (fun r e => by cases e; omega)
      case done =>
        intro D W hD ⟨i1, i2, i3, i4, ib⟩ hDl
        have hlen : (Value.slice (some ⟨w.heap.size, 0, none⟩) 64 64 :: vs).length = m + 1 := by rw [List.length_cons, h.1]
        rw [hlen] at i1 i2
        have hc := cell_of_one i1
        have tx := (Texts.one (i3.ints (n := 64) (by rw [turned_length, HZ.out]; omega)) (Nat.le_refl 64) (by simp [maxLen])).cons ((ht.below (ib.mono hB)).more (B' := W.heap.size) (by have := ib.size; omega))
        rw [List.take_of_length_le (by rw [turned_length, HZ.out]; omega)] at tx
        have vx := ownsRow_vals i2 tx.one_cell
        have HF := Lib.hid (show (turned t zs :: xss).flatten = turned t zs ++ xss.flatten from rfl)
        have HL := Lib.hid (show (turned t zs ++ xss.flatten).length ≤ 1099511627776 by rw [List.length_append, turned_length, HZ.out]; omega)
        have HBS := Lib.hid (show Bs (turned t zs ++ xss.flatten) from fun z hz => by
          rcases List.mem_append.1 hz with h1 | h1
          · exact turned_bytes _ _ z h1
          · exact hb z h1)
        have hDq : D ≠ q := by have := Z5.out; have := HQ.out; omega
        clear hlen i1 i2 i3
        gi_wp2_with fail
        refine ⟨trivial, ?_⟩
        refine (callsIn_wide.2 (sum_any _ _ _ _ _ _ _ vx tx (Nat.le_refl _) (by omega) (by rw [HF.out]; exact HL.out) (by rw [HF.out]; exact HBS.out) (hT0.below ib hT0.lt) (hT1.below ib hT1.lt))).mono ?_
        rw [HF.out]
        rintro e W7 ⟨rfl, hb7⟩
        have b7 := ib.trans (hb7.mono ib.size)
        have r7 := i4.below hb7 i4.lt
        have d7 := (hb7.block D (Array.getElem?_eq_some_iff.1 hDl).1).trans hDl
        have hs7 := b7.size
        clear vx tx ib i4 hDl hb7
        gi_wp2_with (refine wpListIn_store_RowTo rfl 22 _ _ rfl q rfl 22 .u8 _ _ rfl r7 32 info_32 (sha_length _) (by simp) (fun z hz => wf_of_byte (sha_bytes _ z hz)) ?_; intro w8 r8 g8 z8; have d8 := (g8.block D (Array.getElem?_eq_some_iff.1 d7).1 (by intro e; injection e with e; omega)).trans d7)
        refine ⟨by simp, .inl ⟨_, _, rfl, run_takeDeferred d8, ?_⟩⟩
        have r9 : Row (w8.putObj D (.deferred none)) q 22 .u8 (Sum.sha (turned t zs ++ xss.flatten)) := ⟨r8.1, (World.putObj_heap_other (fun e => hDq e.symm)).trans r8.2⟩
        refine ⟨.agg (arr .u8 (Sum.sha (turned t zs ++ xss.flatten))), results_Row rfl _ _ q _ _ _ rfl r9 32 5 Tryz.underlying22 info_32 (sha_length _), rfl, ?_⟩
        exact (b7.grown g8 hs7 (fun r e => by have := HQ.out; cases e; omega)).grown (grownBy_putObj' _ D _) (by have := g8.size; omega) (fun r e => by have := Z5.out; cases e; omega)
end Go.Proofs.YtjelacblnjbfgaaGreatDoor.Mac
namespace Go
namespace Proofs.YtjelacblnjbfgaaGreatDoor.Mem
end Proofs.YtjelacblnjbfgaaGreatDoor.Mem
end Go
namespace Go.Proofs.YtjelacblnjbfgaaGreatDoor.Mem
open Go.RowKit
end Go.Proofs.YtjelacblnjbfgaaGreatDoor.Mem
namespace Go.Proofs.YtjelacblnjbfgaaGreatDoor
theorem Z1 {α : Type} (xs : List α) (i : Nat) (a : α) : xs.toArray.setIfInBounds i a = (xs.set i a).toArray := List.setIfInBounds_toArray ..
theorem Z2 {α : Type} (x a : α) (xs : List α) : (x :: xs).set 0 a = a :: xs := rfl
theorem Z3 {α : Type} (x a : α) (xs : List α) (n : Nat) : (x :: xs).set (n + 1) a = x :: xs.set n a := rfl
end Go.Proofs.YtjelacblnjbfgaaGreatDoor
namespace Go.Proofs.YtjelacblnjbfgaaGreatDoor.Held
open Go.RowKit Go.Shelf Mem
section
variable {P : Program} {ops : Array Oper} {Q : Exit → Act → World → Prop} {md : Region.Mode} {S : World → Prop}
theorem take (i : Nat) (d : Option Tmp) {oi : Oper} {v : Value} {fuel : Nat} {listed : Array Bool} {a : Act} {w : World} (hi : ops[i]? = some oi) (hd : oi.dst = d)
    (hs : Region.noSelect ops = true) (hf : Region.free md ops listed i = true) (hr : (Region.ready md ops listed).contains i = true)
    (hQ : ∀ c a w, Q (.panic c) (a.put d v) w → Q (.panic c) a w) (hw : Region.wanted oi (yielded ops a.tmps) = true) (hy : ∀ w, S w → (execOp a.eval oi).run P w = .ok (.value v) w) (hS : S w)
    (h : wpAnyH P md ops Q S fuel (listed.setIfInBounds i true) (a.put d v) w) : wpAnyH P md ops Q S (fuel + 1) listed a w := by
  subst hd
  exact wpAnyH_take hi hs hf hr hQ (.inl ⟨hw, hy⟩) hS h
theorem tk (i : Nat) (d : Option Tmp) {oi : Oper} {v : Value} {fuel : Nat} {listed : Array Bool} {a : Act} {w : World} (hi : ops[i]? = some oi) (hy : ∀ w, S w → (execOp a.eval oi).run P w = .ok (.value v) w) (hS : S w)
    (h : wpAnyH P md ops Q S fuel (listed.setIfInBounds i true) (a.put d v) w) (hd : oi.dst = d := by rfl) (hs : Region.noSelect ops = true := by kernel_rfl) (hf : Region.free md ops listed i = true := by kernel_rfl)
    (hr : (Region.ready md ops listed).contains i = true := by kernel_rfl) (hQ : ∀ c a w, Q (.panic c) (a.put d v) w → Q (.panic c) a w := by intro c a w h; exact h) (hw : Region.wanted oi (yielded ops a.tmps) = true := by rfl) : wpAnyH P md ops Q S (fuel + 1) listed a w :=
  take i d hi hd hs hf hr hQ hw hy hS h
theorem one (i : Nat) {fuel : Nat} {listed : Array Bool} {a : Act} {w : World} (hr : Region.ready md ops listed = [i])
    (h : wpOp P ops Q i (fun a' w' => S w' ∧ wpAnyH P md ops Q S fuel (listed.setIfInBounds i true) a' w') a w) : wpAnyH P md ops Q S (fuel + 1) listed a w := by
  refine wpAnyH_all hr (by simp) fun j hj => ?_
  obtain rfl := List.mem_singleton.1 hj
  exact h
theorem two (i j : Nat) {fuel : Nat} {listed : Array Bool} {a : Act} {w : World} (hr : Region.ready md ops listed = [i, j])
    (h1 : wpOp P ops Q i (fun a' w' => S w' ∧ wpAnyH P md ops Q S fuel (listed.setIfInBounds i true) a' w') a w) (h2 : wpOp P ops Q j (fun a' w' => S w' ∧ wpAnyH P md ops Q S fuel (listed.setIfInBounds j true) a' w') a w) : wpAnyH P md ops Q S (fuel + 1) listed a w := by
  refine wpAnyH_all hr (by simp) fun k hk => ?_
  rcases List.mem_cons.1 hk with rfl | hk
  · exact h1
  · obtain rfl := List.mem_singleton.1 hk
    exact h2
theorem three (i j k : Nat) {fuel : Nat} {listed : Array Bool} {a : Act} {w : World} (hr : Region.ready md ops listed = [i, j, k])
    (h1 : wpOp P ops Q i (fun a' w' => S w' ∧ wpAnyH P md ops Q S fuel (listed.setIfInBounds i true) a' w') a w) (h2 : wpOp P ops Q j (fun a' w' => S w' ∧ wpAnyH P md ops Q S fuel (listed.setIfInBounds j true) a' w') a w)
    (h3 : wpOp P ops Q k (fun a' w' => S w' ∧ wpAnyH P md ops Q S fuel (listed.setIfInBounds k true) a' w') a w) : wpAnyH P md ops Q S (fuel + 1) listed a w := by
  refine wpAnyH_all hr (by simp) fun l hk => ?_
  rcases List.mem_cons.1 hk with rfl | hk
  · exact h1
  · rcases List.mem_cons.1 hk with rfl | hk
    · exact h2
    · obtain rfl := List.mem_singleton.1 hk
      exact h3
theorem op_wp (i : Nat) {o : Oper} {a : Act} {w : World} {K : Act → World → Prop} (hi : ops[i]? = some o) (hw : Region.wanted o (yielded ops a.tmps) = true) (h : Oper.wp P o a w K Q) : wpOp P ops Q i K a w := by
  unfold wpOp
  simp only [hi, hw, if_true]
  exact .inl h
theorem op_call (i : Nat) (d : Option Tmp) {o : Oper} {a : Act} {w : World} {K : Act → World → Prop} (f : FuncId) (vals : Array Value) {xs : Array Operand} {ts : Array TypeId} {R : Ending → World → Prop} (hi : ops[i]? = some o) (hd : o.dst = d) (hw : Region.wanted o (yielded ops a.tmps) = true)
    (ho : o.op = .call { callee := .value (.func f), args := xs, argTypes := ts }) (he : Enters P f) (hv : xs.map a.eval = vals)
    (hc : Calls P f vals w R)
    (h : ∀ e w', R e w' → ∃ v, e = .returned v ∧ K (a.put d v) w') : wpOp P ops Q i K a w := by
  subst hd
  refine op_wp i hi hw ?_
  have hrun : (execOp a.eval o).run P w = .ok (.enter f vals) w := by
    unfold execOp
    simp only [ho, resolve, Act.eval, Deferred.ofValue, Sem.run_bind, Sem.run_pure, Result.andThen_ok, invoke, Array.empty_append, Array.append_empty, hv]
    exact he _ _
  unfold Oper.wp
  rw [hrun, Oper.upon_enter]
  refine hc.mono fun e w' hR => ?_
  obtain ⟨v, rfl, hW⟩ := h e w' hR
  exact hW
theorem op_build (i : Nat) (d : Option Tmp) {o : Oper} {a : Act} {w : World} {K : Act → World → Prop} (t e : TypeId) (len : Nat) {parts : Array (Nat × Operand)} (z : Value) (bytes : Nat) (vs : List Value) (hi : ops[i]? = some o) (hd : o.dst = d) (hw : Region.wanted o (yielded ops a.tmps) = true)
    (ho : o.op = .buildSlice t len parts) (hu : P.underlying t = some (.slice e)) (hinfo : (P.info? e).map (fun i => (i.zero, i.size, i.bytes)) = some (some z, 1, bytes))
    (hp : (parts.map fun (i, x) => (i, a.eval x)).toList = (vs.zipIdx 0).map fun x => (x.2, x.1)) (h1 : ∀ v ∈ vs, v.cells = #[v]) (h2 : ∀ v ∈ vs, v.oneCell' = true) (hl : vs.length = len) (h0 : 0 < len) (hlen : len ≤ 1000)
    (h : ∀ p w', Vals w' w'.heap.size (some ⟨p, 0, none⟩) len vs → Below w.heap.size w w' → K (a.put d (.slice (some ⟨p, 0, none⟩) len len)) w') : wpOp P ops Q i K a w := by
  subst hd
  subst hl
  refine op_wp i hi hw ?_
  obtain ⟨ie, hie, hz, hsz, _⟩ := info_parts hinfo
  refine Go.wp_buildSlice t e vs.length parts ho vs.toArray ie z hu hie hz (by rw [hsz]; omega) (by rw [hsz]; omega) ?_ (h _ _ ((Vals.new w e vs h2).more (by simp)) ((Below.refl _ w).alloc (Nat.le_refl _) _))
  rw [hp]
  simp only [hsz]
  exact Go.Great.fill_flat vs _ h1 (by simp)
theorem op_store_Row (i : Nat) (d : Option Tmp) {o : Oper} {a : Act} {w : World} {K : Act → World → Prop} (ty : TypeId) {x y : Operand} (g : Nat) (t : TypeId) (k : IntKind) (old zs : List Int) (hi : ops[i]? = some o) (hd : o.dst = d) (hw : Region.wanted o (yielded ops a.tmps) = true)
    (ho : o.op = .store ty x y) (hx : a.eval x = .pointer (some ⟨g, 0, none⟩)) (hy : a.eval y = .agg (arr k zs)) (hrow : Row w g t k old) (n : Nat) (hsz : (P.info? ty).map (·.size) = some n) (hn : zs.length = n) (ho' : old.length = n)
    (h : K (a.put d undef) (w.setRow g (arr k zs))) : wpOp P ops Q i K a w := by
  subst hd
  refine op_wp i hi hw ?_
  unfold Oper.wp execOp
  simp only [ho, hx, hy, Instr.storeAt, Instr.sureAddr, Sem.run_bind, Sem.run_pure, Result.andThen_ok, run_storeVar_row w g t ty _ (arr k zs) hrow.2 (by rw [hsz, arr_size, hn]) (by simp [arr, ho', hn]) (arr_one k zs)]
  exact h
variable {ρ : Operand → Value} {o : Oper}
theorem y_move {x : Operand} {v : Value} (ho : o.op = .move x) (hv : ρ x = v) : ∀ w, S w → (execOp ρ o).run P w = .ok (.value v) w := fun w _ => by simp [execOp, ho, hv]
theorem y_assign {x : Operand} {v : Value} (ho : o.op = .assign x) (hv : ρ x = v) : ∀ w, S w → (execOp ρ o).run P w = .ok (.value v) w := fun w _ => by simp [execOp, ho, hv]
theorem y_slice {t : TypeId} {x : Operand} {lo hi mx : Option Operand} {v : Value} (ho : o.op = .slice t x lo hi mx) (hr : ∀ w, (Instr.sliceAt t (ρ x) (lo.map ρ) (hi.map ρ) (mx.map ρ)).run P w = .ok v w) : ∀ w, S w → (execOp ρ o).run P w = .ok (.value v) w :=
  fun w _ => by simp [execOp, ho, hr w]
theorem y_bin {op : BinOp} {t ty : TypeId} {x y : Operand} {u v r : Value} (ho : o.op = .binOp op t x y ty) (hx : ρ x = u) (hy : ρ y = v) (hg : ∀ w, (eqGuard op t x y u v).run P w = .ok () w) (hr : ∀ w, (binOp op t u v).run P w = .ok r w) : ∀ w, S w → (execOp ρ o).run P w = .ok (.value r) w :=
  fun w _ => by simp [execOp, ho, hx, hy, hg w, hr w]
theorem y_load_Row {ty : TypeId} {x : Operand} {g n : Nat} {t e : TypeId} {k : IntKind} {zs : List Int} (ho : o.op = .load ty x) (hx : ρ x = .pointer (some ⟨g, 0, none⟩)) (hu : P.underlying ty = some (.array n e)) (hi : (P.info? ty).map (·.size) = some n) (hn : zs.length = n)
    (hr : ∀ w, S w → Row w g t k zs) : ∀ w, S w → (execOp ρ o).run P w = .ok (.value (.agg (arr k zs))) w := fun w hw => by
  simp only [execOp, ho, hx, Instr.loadAt, Instr.sureAddr, Sem.run_bind, Sem.run_pure, Result.andThen_ok, run_loadVar_row w g t ty (arr k zs) (0, 0) _ (hr w hw).2 hu rfl (by rw [hi, arr_size, hn])]
end
section
variable {P : Program} {S : World → Prop} {ρ : Operand → Value} {o : Oper}
theorem y_int {op : BinOp} {t ty : TypeId} {x y : Operand} {k : IntKind} {a b r : Int} (ho : o.op = .binOp op t x y ty) (hx : ρ x = .int k a) (hy : ρ y = .int k b) (hr : ∀ w : World, (binOp op t (.int k a) (.int k b)).run P w = .ok (.int k r) w) :
    ∀ w, S w → (execOp ρ o).run P w = .ok (.value (.int k r)) w := y_bin ho hx hy (fun w => by cases op <;> simp [eqGuard]) hr
theorem run_quo (t : TypeId) (k : IntKind) {a b r : Int} (hb : b ≠ 0) (hr : k.wrap (a.tdiv b) = r) (w : World) : (binOp .quo t (.int k a) (.int k b)).run P w = .ok (.int k r) w := by simp [binOp, Op.intDiv, hb, hr]
theorem run_rem (t : TypeId) (k : IntKind) {a b r : Int} (hb : b ≠ 0) (hr : a.tmod b = r) (w : World) : (binOp .rem t (.int k a) (.int k b)).run P w = .ok (.int k r) w := by simp [binOp, Op.intDiv, hb, hr]
theorem run_sub (t : TypeId) (k : IntKind) {a b r : Int} (hr : k.wrap (a - b) = r) (w : World) : (binOp .sub t (.int k a) (.int k b)).run P w = .ok (.int k r) w := by simp [binOp, Op.intArith, hr]
theorem run_add (t : TypeId) (k : IntKind) {a b r : Int} (hr : k.wrap (a + b) = r) (w : World) : (binOp .add t (.int k a) (.int k b)).run P w = .ok (.int k r) w := by simp [binOp, Op.intArith, hr]
theorem y_convert {src dst : TypeId} {x : Operand} {k k' : IntKind} {a r : Int} (ho : o.op = .convert src dst x) (hx : ρ x = .int k a) (hs : (P.underlying src).isSome = true) (hd : P.underlying dst = some (.int k')) (hr : k'.wrap a = r) :
    ∀ w, S w → (execOp ρ o).run P w = .ok (.value (.int k' r)) w := fun w _ => by
  have h := run_convert_int (P := P) w src dst k a hs
  have e : P.intKind dst = k' := by simp [Program.intKind, hd]
  simp [execOp, ho, hx, h, hd, hr, e]
theorem y_len {t : TypeId} {x : Operand} {A : Option Addr} {n c : Nat} (ho : o.op = .call { callee := .builtin .len, args := #[x], argTypes := #[t] }) (hx : ρ x = .slice A n c) (ht : P.underlying t = some (.slice (P.elem t))) :
    ∀ w, S w → (execOp ρ o).run P w = .ok (.value (.int .i64 (n : Int))) w := fun w _ => by
  have h := run_len_slice (P := P) w t o.type A n c ht
  unfold execOp
  simp [ho, resolve, invoke, builtin, hx, h, goInt]
end
end Go.Proofs.YtjelacblnjbfgaaGreatDoor.Held
