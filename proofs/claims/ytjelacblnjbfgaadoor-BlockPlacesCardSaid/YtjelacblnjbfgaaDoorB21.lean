/-
  What was packed, taken again, as plain functions: no program here.
  The first records of a list, and what a block that was sealed is opened as.
  What the frame of a proof says of an array of numbers that came in by value.
  What the frame of a proof says of a place that came in by value.
  What the frame of a proof says of a list of records that came in.
-/
import Derived.Test.YtjelacblnjbfgaaDoorB10
import Derived.Test.YtjelacblnjbfgaaDoorB20
import Derived.Test.YtjelacblnjbfgaaDoorB1
import Derived.WideShapes
import Derived.ChangeArms
import Derived.Test.YtjelacblnjbfgaaDoorB13
import Derived.Test.YtjelacblnjbfgaaDoorB8
set_option linter.unusedVariables false
namespace Go.Proofs.YtjelacblnjbfgaaDoor.Rs
open Go.RowKit Go.Shelf Go.Proofs.YtjelacblnjbfgaaDoor Mem Help Go.Proofs.YtjelacblnjbfgaaDoor.Sum Po Ky Ct Go.Proofs.YtjelacblnjbfgaaDoor.Bit Held Rc
theorem fld_eights (ns : List Int) (hw : ∀ z ∈ ns, (Lit.int .u64 z).wf = true) {i : Nat} (hi : i < ns.length) : fld (eights ns) i = ns.getD i 0 := by
  unfold fld
  rw [eights_at ns i hi, val_digits]
  have := wf_u64 (hw (ns.getD i 0) (by rw [List.getD_eq_getElem?_getD, List.getElem?_eq_getElem hi]; exact List.getElem_mem _))
  omega
theorem fld_packed (d : Bool) (k v s : Int) {i : Nat} (hi : i < 4) : fld (packed d k v s) i = (numbers d (Rc.zd d k) (Rc.zd d v) (Rc.zd d s)).getD i 0 := fld_eights _ (numbers_wf _ _ _ _) hi
theorem may_packR (r : R) : mayB (packR r) = true := by
  have h0 : fld (packR r) 0 = oneI r.d := fld_packed r.d r.k r.v r.s (i := 0) (by omega)
  have h1 : fld (packR r) 1 = Rc.u64 (Rc.zd r.d r.k) := fld_packed r.d r.k r.v r.s (i := 1) (by omega)
  have h2 : fld (packR r) 2 = Rc.u64 (Rc.zd r.d r.v) := fld_packed r.d r.k r.v r.s (i := 2) (by omega)
  have h3 : fld (packR r) 3 = Rc.u64 (Rc.zd r.d r.s) := fld_packed r.d r.k r.v r.s (i := 3) (by omega)
  unfold mayB
  rw [h0, h1, h2, h3]
  cases r.d <;> rfl
theorem recT_packR {r : R} (h : r.wf) : recT (packR r) = r.zd := by
  have h0 : fld (packR r) 0 = oneI r.d := fld_packed r.d r.k r.v r.s (i := 0) (by omega)
  have h1 : fld (packR r) 1 = Rc.u64 (Rc.zd r.d r.k) := fld_packed r.d r.k r.v r.s (i := 1) (by omega)
  have h2 : fld (packR r) 2 = Rc.u64 (Rc.zd r.d r.v) := fld_packed r.d r.k r.v r.s (i := 2) (by omega)
  have h3 : fld (packR r) 3 = Rc.u64 (Rc.zd r.d r.s) := fld_packed r.d r.k r.v r.s (i := 3) (by omega)
  unfold recT R.zd
  rw [h0, h1, h2, h3, w64_u64 (zd_wf h.1), w64_u64 (zd_wf h.2.1), w64_u64 (zd_wf h.2.2), show (oneI r.d == 1) = r.d by cases r.d <;> rfl]
theorem word_packs : ∀ (rs : List R) (i : Nat), i < rs.length → word (packs rs) i = packR (rs.getD i R0)
  | [], i, h => absurd h (by simp)
  | r :: rs, 0, _ => by
    unfold word packs
    rw [List.flatMap_cons, Nat.mul_zero, List.drop_zero, List.take_left' (packR_length r), List.getD_cons_zero]
  | r :: rs, i + 1, h => by
    have := word_packs rs i (by simpa using h)
    unfold word packs at this ⊢
    rw [List.flatMap_cons, List.getD_cons_succ, ← this, show 32 * (i + 1) = (packR r).length + 32 * i by rw [packR_length]; omega, List.drop_length_add_append]
theorem allOk_packs (rs : List R) : allOk (packs rs) rs.length = true := allOk_iff.2 fun i hi => by rw [word_packs rs i hi]; exact may_packR _
theorem recsOf_packs {rs : List R} (h : ∀ r ∈ rs, r.wf) : recsOf (packs rs) rs.length = rs.map R.zd := by
  apply List.ext_getElem?
  intro i
  by_cases hi : i < rs.length
  · have hw : (rs.getD i R0).wf := h _ (by rw [List.getD_eq_getElem?_getD, List.getElem?_eq_getElem hi]; exact List.getElem_mem _)
    have e : rs.getD i R0 = rs[i] := by rw [List.getD_eq_getElem?_getD, List.getElem?_eq_getElem hi]; rfl
    rw [List.getElem?_map, List.getElem?_eq_getElem hi, recsOf, List.getElem?_map, List.getElem?_range hi]
    simp only [Option.map_some]
    rw [word_packs rs i hi, recT_packR hw, e]
  · rw [List.getElem?_eq_none (by rw [recsOf_length]; omega), List.getElem?_eq_none (by rw [List.length_map]; omega)]
theorem takes_packs {rs : List R} (h : ∀ r ∈ rs, r.wf) (h1 : 1 ≤ rs.length) (h8 : rs.length ≤ 8) : takesE (packs rs) (rs.length : Int) = 0 ∧ takesR (packs rs) (rs.length : Int) = rs.map R.zd := by
  have hs : mayS (rs.length : Int) = true := by simp [mayS]; omega
  have hl : ((packs rs).length : Int) = 32 * (rs.length : Int) := by rw [packs_length]; omega
  constructor
  · unfold takesE
    rw [if_neg (by simp [hs]), if_neg (by omega), if_neg (by omega), Int.toNat_natCast, if_pos (allOk_packs rs)]
  · unfold takesR
    rw [Int.toNat_natCast, if_pos ⟨hs, hl, allOk_packs rs⟩, recsOf_packs h]
end Go.Proofs.YtjelacblnjbfgaaDoor.Rs
namespace Go.Proofs.YtjelacblnjbfgaaDoor.Rs
open Go.RowKit Go.Shelf Go.Proofs.YtjelacblnjbfgaaDoor Mem Help Go.Proofs.YtjelacblnjbfgaaDoor.Sum Po Ky Ae Held Rc
theorem recs_front {w0 : World} {B n c m : Nat} {A : Option Addr} {rs : List R} (h : Recs w0 B A n rs) (hm : m ≤ n) (hc : n ≤ c) :
    ∃ A', (∀ w, (Instr.sliceAt 26 (.slice A n c) none (some (.int .i64 (m : Int))) none).run Tryd.prog w = .ok (.slice A' m c) w) ∧ Recs w0 B A' m (rs.take m) := by
  have he : Tryd.prog.elem 26 = 36 := by simp [Program.elem, Tryd.underlying26]
  have ht' : Tryd.prog.underlying 26 = some (.slice (Tryd.prog.elem 26)) := by rw [he]; exact Tryd.underlying26
  obtain ⟨inf, hi, h1⟩ := Option.map_eq_some_iff.1 info_recs
  simp only [Prod.mk.injEq] at h1
  refine ⟨if c = 0 then A else A.map (·.add 0), fun w => ?_, by rw [List.length_take, h.1]; omega, fun r hr => h.2.1 r (List.mem_of_mem_take hr), fun h0 => ?_⟩
  · rw [run_sliceAt_slice w _ _ _ _ _ ht', run_slice_h w _ A n c ht' .i64 _ (by omega) (by omega), he]
    have hz : (sizeOf 36).run Tryd.prog w = .ok 4 w := by simp [sizeOf, typeInfo, hi, h1.1]
    rw [hz]
    simp only [Result.andThen, sliced, Nat.zero_mul, Nat.sub_zero, Int.toNat_natCast]
  · obtain ⟨b, off, rfl, hb, hcc⟩ := h.2.2 (by omega)
    rw [if_neg (by omega)]
    refine ⟨b, off, by simp [Addr.add], hb, fun j v hv => hcc j v ?_⟩
    have e : flat rs = flat (rs.take m) ++ flat (rs.drop m) := by rw [← flat_append, List.take_append_drop]
    rw [e, List.getElem?_append_left (List.getElem?_eq_some_iff.1 hv).1]
    exact hv
theorem blockS_length {job : List Int} {ph rr ad tm ix : Int} {rs : List R} {sz : Nat} (hn : rs.length ≤ sz) : (blockS job ph rr ad tm ix rs sz).length = 32 * sz + 16 := by
  rw [blockS, sealed_length, packs_length, pad_length hn]
theorem open_own (job : List Int) (ph rr ad tm ix : Int) {rs : List R} {sz : Nat} (h : ∀ r ∈ rs, r.wf) (h1 : 1 ≤ sz) (h8 : sz ≤ 8) (hn : rs.length ≤ sz) :
    blockOE job ph rr ad tm ix (sz : Int) (blockS job ph rr ad tm ix rs sz) = 0 ∧ blockOR job ph rr ad tm ix (sz : Int) (blockS job ph rr ad tm ix rs sz) = (pad rs sz).map R.zd := by
  have hs : mayS (sz : Int) = true := by simp [mayS]; omega
  have hl := blockS_length (job := job) (ph := ph) (rr := rr) (ad := ad) (tm := tm) (ix := ix) hn
  have ho : opened (kPlace job ph rr ad) (nonce tm ix) (kAad ph rr ad tm ix (32 * (sz : Int))) (blockS job ph rr ad tm ix rs sz) = some (packs (pad rs sz)) := opened_sealed _ _ _ (bs_of (packs_wf _))
  have hE : oE (kPlace job ph rr ad) (nonce tm ix) (kAad ph rr ad tm ix (32 * (sz : Int))) (blockS job ph rr ad tm ix rs sz) = 0 := by rw [oE, if_neg (by omega), ho]
  have hP : oP (kPlace job ph rr ad) (nonce tm ix) (kAad ph rr ad tm ix (32 * (sz : Int))) (blockS job ph rr ad tm ix rs sz) = packs (pad rs sz) := by rw [oP, if_neg (by omega), ho]; rfl
  have hw : ∀ r ∈ pad rs sz, r.wf := fun r hr => by
    rcases List.mem_append.1 hr with hr | hr
    · exact h r hr
    · rw [List.eq_of_mem_replicate hr]; exact ⟨rfl, rfl, rfl⟩
  have hpl := pad_length hn
  have hT := takes_packs hw (by omega) (by omega)
  rw [hpl] at hT
  refine ⟨?_, ?_⟩
  · rw [blockOE, if_neg (by simp [hs]), if_pos hE, hP, hT.1]
  · rw [blockOR, if_neg (by simp [hs]), if_pos hE, hP, hT.2]
theorem blockOR_wf (job : List Int) (ph rr ad tm ix size : Int) (b : List Int) : ∀ r ∈ blockOR job ph rr ad tm ix size b, r.wf := by
  unfold blockOR
  split
  · exact fun r hr => absurd hr (by simp)
  · split
    · exact takesR_wf _ _
    · exact fun r hr => absurd hr (by simp)
end Go.Proofs.YtjelacblnjbfgaaDoor.Rs
namespace Go.Proofs.YtjelacblnjbfgaaDoor.Mem
open Go.RowKit Go.ChangeShapes Go.WideShapes
def numOf' : Value → Int
  | .int _ z => z
  | _ => 0
theorem open_arr {H : Type} {enc : TypeId × Value → H} {P : Program} {w : World} {base : Nat} {spare : Nat → Bool} {held : Bool} {r : Reach} {b0 n : Nat} {t e : TypeId} {k : IntKind} {v : Value} {d : DataW H} {p : List MemPlace}
    (ht : P.underlying t = some (.array n e)) (he : P.underlying e = some (.int k)) (ce : P.cellsOf e = 1) (ct : P.cellsOf t = n) (hval : Value.okWide P w r b0 t v) (h : DataW.Trod enc P w base spare held t v d p) :
    ∃ zs, v = .agg (arr k zs) ∧ zs.length = n ∧ ∀ z ∈ zs, (Lit.int k z).wf = true := by
  simp only [Value.okWide, ht] at hval
  obtain ⟨cs, rfl, hsz, _⟩ := hval
  obtain ⟨fuel, hf⟩ := h
  simp only [Value.cells] at hf
  obtain ⟨xs, m, _, _, hl, hxl, hel⟩ := DataW.trod_array ht hf
  have hn : cs.toList.length = n := by rw [hl, ct]
  have each : ∀ i (hi : i < cs.toList.length), ∃ z, cs.toList[i] = .int k z ∧ (Lit.int k z).wf = true := by
    intro i hi
    have h1 := hel i (by omega)
    rw [ce, Nat.mul_one, List.getElem?_eq_getElem (by omega)] at h1
    obtain ⟨z, h2, _, h3⟩ := DataW.trod_int he h1
    rw [List.drop_eq_getElem_cons hi] at h2
    simp only [List.take_succ_cons, List.take_zero] at h2
    exact ⟨z, (List.cons.inj h2).1, h3⟩
  refine ⟨cs.toList.map numOf', ?_, by simpa using hn, fun z hz => ?_⟩
  · congr 1
    unfold arr
    rw [List.map_map]
    have : cs.toList.map (Value.int k ∘ numOf') = cs.toList := by
      apply List.ext_getElem
      · simp
      · intro i h1 h2
        obtain ⟨z, hz, _⟩ := each i h2
        rw [List.getElem_map, hz]
        rfl
    rw [this]
  · obtain ⟨v, hv, rfl⟩ := List.mem_map.1 hz
    obtain ⟨i, hi, rfl⟩ := List.mem_iff_getElem.1 hv
    obtain ⟨z, hz', hw⟩ := each i hi
    rw [hz']
    exact hw
end Go.Proofs.YtjelacblnjbfgaaDoor.Mem
namespace Go.Proofs.YtjelacblnjbfgaaDoor.Ky
open Go.RowKit Go.ChangeShapes Go.WideShapes
theorem place_fields : ∃ f0 f1 f2 f3 f4 : Field, Tryd.prog.underlying 25 = some (.struct #[f0, f1, f2, f3, f4]) ∧ (f0.offset = 0 ∧ f0.type = 3) ∧ (f1.offset = 1 ∧ f1.type = 3) ∧ (f2.offset = 2 ∧ f2.type = 3) ∧ (f3.offset = 3 ∧ f3.type = 23) ∧ (f4.offset = 4 ∧ f4.type = 3) :=
  ⟨_, _, _, _, _, Tryd.underlying25, ⟨rfl, rfl⟩, ⟨rfl, rfl⟩, ⟨rfl, rfl⟩, ⟨rfl, rfl⟩, ⟨rfl, rfl⟩⟩
section
variable {H : Type} {enc : TypeId × Value → H} {w : World} {base : Nat} {spare : Nat → Bool} {held : Bool}
theorem field_int {cs : List Value} {j n : Nat} {t : TypeId} {k : IntKind} {x : Option (DataW H × List MemPlace)} (hj : j < cs.length) (ht : Tryd.prog.underlying t = some (.int k)) (h : DataW.trod enc Tryd.prog w base spare held n t ((cs.drop j).take 1) = x) (hx : x.isSome = true) : ∃ z, cs[j]? = some (.int k z) ∧ (Lit.int k z).wf = true := by
  obtain ⟨y, rfl⟩ := Option.isSome_iff_exists.1 hx
  obtain ⟨z, h2, _, h3⟩ := DataW.trod_int ht h
  rw [List.drop_eq_getElem_cons hj] at h2
  simp only [List.take_succ_cons, List.take_zero] at h2
  exact ⟨z, by rw [List.getElem?_eq_getElem hj, (List.cons.inj h2).1], h3⟩
set_option maxRecDepth 100000 in
theorem open_place {r : Reach} {b0 : Nat} {v : Value} {d : DataW H} {p : List MemPlace} (hval : Value.okWide Tryd.prog w r b0 25 v) (h : DataW.Trod enc Tryd.prog w base spare held 25 v d p) :
    ∃ ph rr a t i : Int, v = .agg #[.int .i64 ph, .int .i64 rr, .int .i64 a, .int .u64 t, .int .i64 i] ∧ (Lit.int .i64 ph).wf = true ∧ (Lit.int .i64 rr).wf = true ∧ (Lit.int .i64 a).wf = true ∧ (Lit.int .u64 t).wf = true ∧ (Lit.int .i64 i).wf = true := by
  obtain ⟨f0, f1, f2, f3, f4, hu, ⟨o0, t0⟩, ⟨o1, t1⟩, ⟨o2, t2⟩, ⟨o3, t3⟩, ⟨o4, t4⟩⟩ := place_fields
  obtain ⟨cs, rfl, hsz⟩ := okWide_struct hu hval
  obtain ⟨fuel, hf⟩ := h
  simp only [Value.cells] at hf
  obtain ⟨xs, m, _, _, hl, hxl, hel⟩ := DataW.trod_struct hu hf
  have ci : Tryd.prog.cellsOf 3 = 1 := by kernel_rfl
  have cu : Tryd.prog.cellsOf 23 = 1 := by kernel_rfl
  have c5 : Tryd.prog.cellsOf 25 = 5 := by kernel_rfl
  rw [c5] at hl
  have hx5 : xs.length = 5 := hxl
  have e0 := hel 0 f0 rfl
  have e1 := hel 1 f1 rfl
  have e2 := hel 2 f2 rfl
  have e3 := hel 3 f3 rfl
  have e4 := hel 4 f4 rfl
  rw [o0, t0, ci] at e0
  rw [o1, t1, ci] at e1
  rw [o2, t2, ci] at e2
  rw [o3, t3, cu] at e3
  rw [o4, t4, ci] at e4
  obtain ⟨z0, q0, w0⟩ := field_int (by omega) Tryd.underlying3 e0 (by simp [hx5])
  obtain ⟨z1, q1, w1⟩ := field_int (by omega) Tryd.underlying3 e1 (by simp [hx5])
  obtain ⟨z2, q2, w2⟩ := field_int (by omega) Tryd.underlying3 e2 (by simp [hx5])
  obtain ⟨z3, q3, w3⟩ := field_int (by omega) Tryd.underlying23 e3 (by simp [hx5])
  obtain ⟨z4, q4, w4⟩ := field_int (by omega) Tryd.underlying3 e4 (by simp [hx5])
  refine ⟨z0, z1, z2, z3, z4, ?_, w0, w1, w2, w3, w4⟩
  congr 1
  apply Array.ext'
  apply List.ext_getElem?
  intro i
  match i with
  | 0 => exact q0
  | 1 => exact q1
  | 2 => exact q2
  | 3 => exact q3
  | 4 => exact q4
  | i + 5 => rw [List.getElem?_eq_none (by omega), List.getElem?_eq_none (by simp)]
end
end Go.Proofs.YtjelacblnjbfgaaDoor.Ky
namespace Go.Proofs.YtjelacblnjbfgaaDoor.Rs
open Go.RowKit Go.ChangeShapes Go.WideShapes Mem Rc
theorem cells_four {w : World} {base : Nat} {a : Addr} {cs : List Value} (h : w.cells? base a 4 = some cs) : cs.length = 4 ∧ ∀ j, j < 4 → w.cell? (a.add j) = cs[j]? := by
  obtain ⟨h1, h2, h3⟩ := World.cells?_some h
  exact ⟨h2, h3⟩
section
variable {H : Type} {enc : TypeId × Value → H} {w : World} {base : Nat} {held : Bool}
theorem open_one {n : Nat} {cs : List Value} {x : DataW H × List MemPlace} (h : DataW.trod enc Tryd.prog w base (fun _ => true) held n 36 cs = some x) : ∃ r : R, cs = r.cells ∧ r.wf := by
  obtain ⟨f0, f1, f2, f3, hu, ⟨o0, t0⟩, ⟨o1, t1⟩, ⟨o2, t2⟩, ⟨o3, t3⟩⟩ := rec_fields
  obtain ⟨xs, m, _, _, hl, hxl, hel⟩ := DataW.trod_struct hu h
  have cb : Tryd.prog.cellsOf 4 = 1 := by kernel_rfl
  have ci : Tryd.prog.cellsOf 2 = 1 := by kernel_rfl
  have c4 : Tryd.prog.cellsOf 36 = 4 := by kernel_rfl
  rw [c4] at hl
  have hx4 : xs.length = 4 := hxl
  have e0 := hel 0 f0 rfl
  have e1 := hel 1 f1 rfl
  have e2 := hel 2 f2 rfl
  have e3 := hel 3 f3 rfl
  rw [o0, t0, cb] at e0
  rw [o1, t1, ci] at e1
  rw [o2, t2, ci] at e2
  rw [o3, t3, ci] at e3
  obtain ⟨z0, q0⟩ := field_bool (by omega) Tryd.underlying4 e0 (by simp [hx4])
  obtain ⟨z1, q1, w1⟩ := field_int (by omega) Tryd.underlying2 e1 (by simp [hx4])
  obtain ⟨z2, q2, w2⟩ := field_int (by omega) Tryd.underlying2 e2 (by simp [hx4])
  obtain ⟨z3, q3, w3⟩ := field_int (by omega) Tryd.underlying2 e3 (by simp [hx4])
  refine ⟨⟨z0, z1, z2, z3⟩, ?_, w1, w2, w3⟩
  apply List.ext_getElem?
  intro i
  match i with
  | 0 => exact q0
  | 1 => exact q1
  | 2 => exact q2
  | 3 => exact q3
  | i + 4 => rw [List.getElem?_eq_none (by omega), List.getElem?_eq_none (by simp [R.cells])]
set_option maxRecDepth 100000 in
theorem open_recs {A : Option Addr} {m c : Nat} {d : DataW H} {p : List MemPlace} (h : DataW.Trod enc Tryd.prog w base (fun _ => true) held 26 (.slice A m c) d p) : ∃ rs, Recs w w.heap.size A m rs ∧ m ≤ c ∧ c ≤ maxLen := by
  obtain ⟨fuel, hf⟩ := h
  simp only [Value.cells] at hf
  rcases DataW.trod_slice Tryd.underlying26 hf with ⟨hcs, _⟩ | ⟨a, len, cap, elems, rest, n, _, hcs, _, hb, hl, hm, hlen, hel, _, _⟩
  · simp at hcs
    obtain ⟨rfl, rfl, rfl⟩ := hcs
    exact ⟨[], Recs.nil _ _ _, Nat.le_refl _, by simp [maxLen]⟩
  · simp at hcs
    obtain ⟨rfl, rfl, rfl⟩ := hcs
    have c4 : Tryd.prog.cellsOf 36 = 4 := by kernel_rfl
    have each : ∀ i, i < m → ∃ r : R, r.wf ∧ ∀ j, j < 4 → w.cell? ((a.add (i * 4)).add j) = r.cells[j]? := fun i hi => by
      have hi' : i < elems.length := by rw [hlen]; exact hi
      have e := hel i hi
      rw [c4, List.getElem?_eq_getElem hi', Option.bind_eq_some_iff] at e
      obtain ⟨cs, hc, ht⟩ := e
      obtain ⟨r, rfl, hw⟩ := open_one ht
      exact ⟨r, hw, (cells_four hc).2⟩
    have hch : ∃ F : Nat → R, ∀ i, i < m → (F i).wf ∧ ∀ j, j < 4 → w.cell? ((a.add (i * 4)).add j) = (F i).cells[j]? :=
      ⟨fun i => if h : i < m then Classical.choose (each i h) else R0, fun i hi => by
        have := Classical.choose_spec (each i hi)
        simp only [hi, dif_pos]
        exact this⟩
    obtain ⟨F, hF⟩ := hch
    refine ⟨(List.range m).map F, ⟨by simp, fun r hr => ?_, fun h0 => ?_⟩, hl, hm⟩
    · obtain ⟨i, hi, rfl⟩ := List.mem_map.1 hr
      exact (hF i (List.mem_range.1 hi)).1
    · have h00 := (hF 0 h0).2 0 (by omega)
      have hsome : ∃ u, w.cell? (a.add 0) = some u := ⟨_, by simpa [R.cells, Addr.add] using h00⟩
      obtain ⟨u, hu⟩ := hsome
      obtain ⟨b, off, spot⟩ := a
      have hspot : spot = none := by simpa [Addr.add] using World.cell?_spot hu
      subst hspot
      have hlt : b < w.heap.size := by simpa [Addr.add] using World.block_lt_of_cell? w _ hu
      have ea : ∀ o j : Nat, (Addr.mk b o none).add j = ⟨b, o + j, none⟩ := fun o j => by unfold Addr.add; split <;> simp_all
      refine ⟨b, off, rfl, hlt, fun q v hv => ?_⟩
      have hq := (List.getElem?_eq_some_iff.1 hv).1
      rw [flat_length] at hq
      simp only [List.length_map, List.length_range] at hq
      have hv' := hv
      rw [show q = q / 4 * 4 + q % 4 by omega, flat_at _ (q / 4) (q % 4) (by omega) (by simp; omega)] at hv'
      have hg : ((List.range m).map F).getD (q / 4) R0 = F (q / 4) := by
        rw [List.getD_eq_getElem?_getD, List.getElem?_map, List.getElem?_range (by omega)]
        rfl
      rw [hg, ← (hF (q / 4) (by omega)).2 (q % 4) (by omega), ea, ea, Nat.add_assoc, show q / 4 * 4 + q % 4 = q by omega] at hv'
      exact hv'
end
end Go.Proofs.YtjelacblnjbfgaaDoor.Rs
