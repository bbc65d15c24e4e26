/-
  The laws' first line on package hkdf: it returns true. Conditions: the two tables of package sha lie where the program's text lays them.
  The laws' first line on package keys: it returns true; what the rows' condition on the tables gives. Conditions: the tables of packages sha and internal/strconv lie where the program's text lays them.
  What the frame of a proof says of a place that came in by value. No conditions beyond those stated.
  What the frame of a proof says of an array of numbers that came in by value. No program here. No conditions beyond those stated.
  Two arrays of numbers, two places, two texts, two numbers held against each other: what comes of it, alike or not. No conditions beyond those stated.
-/
import Derived.Test.YtoelgcdjhekafaaDoorB7
import Derived.Test.YtoelgcdjhekafaaDoorB9
import Derived.Test.YtoelgcdjhekafaaDoorB16
import Derived.Test.YtoelgcdjhekafaaDoorRows
import Derived.LaidMore
import Derived.Stop.Joined
import Derived.Stop.LaidErr
import Derived.Test.YtoelgcdjhekafaaDoorB14
import Derived.WideShapes
import Derived.ChangeArms
import Derived.Test.YtoelgcdjhekafaaDoorB1
import Derived.Test.YtoelgcdjhekafaaDoorB15
import Derived.Test.YtoelgcdjhekafaaDoorB5
import Derived.Laws.StructEq
namespace Go.Proofs.YtoelgcdjhekafaaDoor.Hkdf
open Go.RowKit Go.Shelf Go.Proofs.YtoelgcdjhekafaaDoor.Mem Go.Proofs.YtoelgcdjhekafaaDoor.Help Go.Proofs.YtoelgcdjhekafaaDoor.Sum Go.Proofs.YtoelgcdjhekafaaDoor.Sha Go.Proofs.YtoelgcdjhekafaaDoor.Mac Go.Proofs.YtoelgcdjhekafaaDoor
set_option linter.unusedVariables false
attribute [local irreducible] wpList

def key1 : List Int := [1, 0, 0, 0, 0, 0, 0, 0, 0, 0, 0, 0, 0, 0, 0, 0, 0, 0, 0, 0, 0, 0, 0, 0, 0, 0, 0, 0, 0, 0, 0, 0]
theorem key1_length : key1.length = 32 := rfl
theorem key1_wf : ∀ z ∈ key1, (Lit.int .u8 z).wf = true := by decide
/-- Expand to 40 bytes, nothing being said -/
theorem expand_40 (key : List Int) (hk : key.length = 32) (hkb : ∀ z ∈ key, (Lit.int .u8 z).wf = true) (w : World) (hT0 : Tab w 3 Sum.H0) (hT1 : Tab w 4 Sum.K) :
    Calls Tryd.prog 41 #[.agg (arr .u8 key), .slice none 0 0, .int .i64 40] w fun e w' => ∃ g, e = .returned (.tuple #[.slice (some ⟨g, 0, none⟩) 40 40, .int .i64 0]) ∧ w.heap.size ≤ g ∧ Row w' g 5 .u8 (out key [] 40) ∧ Below w.heap.size w w' :=
  expand_any key [] hk hkb w.heap.size none 0 0 40 w (Ints.nil _ _ _ _) (Nat.le_refl _) (Nat.le_refl _) (by simp [maxLen]) (by omega) (by omega) (by omega) hT0 hT1

end Go.Proofs.YtoelgcdjhekafaaDoor.Hkdf
namespace Go.Proofs.YtoelgcdjhekafaaDoor.Ky
open Go.RowKit Go.Shelf Go.Proofs.YtoelgcdjhekafaaDoor.Mem Go.Proofs.YtoelgcdjhekafaaDoor.Help Go.Proofs.YtoelgcdjhekafaaDoor.Sum Go.Proofs.YtoelgcdjhekafaaDoor.Sha Go.Proofs.YtoelgcdjhekafaaDoor.Mac Go.Proofs.YtoelgcdjhekafaaDoor.Po Go.Proofs.YtoelgcdjhekafaaDoor.Hkdf Go.Proofs.YtoelgcdjhekafaaDoor
set_option linter.unusedVariables false
attribute [local irreducible] wpList wpListIn Calls

/-- the tables lie where the text lays them -/
structure Laid (w : World) : Prop where
  start : Tab w 3 Sum.H0
  words : Tab w 4 Sum.K
  pow : Pow w
theorem Laid.below {w w' : World} (h : Laid w) (hb : Below w.heap.size w w') : Laid w' := ⟨h.start.below hb h.start.lt, h.words.below hb h.words.lt, TabK.below h.pow hb (TabK.lt h.pow)⟩
theorem i64_zero : I64 0 := by unfold I64; omega
theorem name_zero : nameU 0 0 0 0 0 = [112, 48, 46, 114, 48, 46, 97, 48, 46, 116, 48, 46, 105, 48] := by
  have e : Lib.itoa 0 = [48] := by unfold Lib.itoa; rw [if_neg (by omega)]; exact Lib.decDigits_one (by omega)
  have d : Lib.decDigits 0 = [48] := Lib.decDigits_one (by omega)
  rw [nameU, e, d]
  rfl
theorem kJob_length (m : List Int) (i : Int) : (kJob m i).length = 32 := hkey_length _ _ _
theorem kJob_wf (m : List Int) (i : Int) : ∀ z ∈ kJob m i, (Lit.int .u8 z).wf = true := hkey_wf _ _ _

/-- a literal, behind a guard that is open -/
theorem wpList_buildG {P : Program} {ops : Array Oper} {rest : List Oper} {o : Oper} {a : Act} {w : World} {Q : Exit → Act → World → Prop} (hw : Region.wanted o (yielded ops a.tmps) = true) (t : TypeId) (parts : Array (Nat × Operand)) (ho : o.op = .build t parts) (cs : Array Value)
    (hf : P.built t (parts.map fun (i, x) => (i, a.eval x)).toList = some cs) (h : wpList P ops Q rest (a.put o.dst (.agg cs)) w) : wpList P ops Q (o :: rest) a w := by
  refine wpList_step fun K hK => ?_
  rw [if_pos hw]
  unfold Oper.wp execOp
  simp only [ho, Sem.run_bind, run_build w t _ _ hf, Result.andThen_ok]
  exact hK _ _ h
set_option maxRecDepth 100000 in
set_option maxHeartbeats 2000000 in
theorem awake8_any (w : World) (hL : Laid w) : Calls Tryd.prog 8 #[] w fun e w' => e = .returned (.bool true) ∧ Below w.heap.size w w' := by
  go_enter Tryd.func8, Tryd.ntmps8
  go_wp2_with (refine wpList_buildG rfl 25 _ rfl #[.int .i64 0, .int .i64 0, .int .i64 0, .int .u64 0, .int .i64 0] (by kernel_rfl) ?_)
  refine (name_any 0 0 0 0 0 i64_zero i64_zero i64_zero (by omega) i64_zero w hL.pow).mono ?_
  rintro e w1 ⟨rfl, b1⟩
  rw [name_zero]
  have L1 := hL.below b1
  go_wp2_with (refine wpList_buildG rfl 22 _ rfl (arr .u8 key1) (by kernel_rfl) ?_)
  refine (job_any key1 key1_length key1_wf 2 (by decide) w1 L1.start L1.words).mono ?_
  rintro e w2 ⟨rfl, b2⟩
  have b12 := b1.trans (b2.mono b1.size)
  go_wp2_with (refine wpList_buildG rfl 22 _ rfl (arr .u8 key1) (by kernel_rfl) ?_)
  refine (rjob_any key1 key1_length key1_wf 2 w2).mono ?_
  rintro e w3 ⟨rfl, b3⟩
  have b13 := b12.trans (b3.mono b12.size)
  have heq := fun W => eql_arr (P := Tryd.prog) W 22 5 32 .u8 (kJob key1 2) Tryd.underlying22 Tryd.underlying5 (by kernel_rfl) (kJob_length key1 2)
  have hgu : Tryd.prog.eqGuardType Tryd.prog.depth 22 = false := by kernel_rfl
  generalize kJob key1 2 = ks at heq ⊢
  go_wp2_with fail

  go_ret
  exact ⟨rfl, b13⟩

def keysLaid : List (String × DataW Unit) := [("math/bits.deBruijn32tab", Rows.laid_math_bits_deBruijn32tab), ("math/bits.deBruijn64tab", Rows.laid_math_bits_deBruijn64tab), ("internal/strconv.uint64pow10", Rows.laid_internal_strconv_uint64pow10), ("domino/sha.start", Rows.laid_domino_sha_start), ("domino/sha.words", Rows.laid_domino_sha_words)]
set_option maxRecDepth 100000 in
theorem laid_of {w : World} (h : laidMetH Tryd.prog keysLaid w) : Laid w := by
  rw [MakeChecks.laidMetH_plain _ _ _ (by kernel_rfl)] at h
  have h3 : Lib.TabIs Tryd.prog w "internal/strconv.uint64pow10" .u64 Lib.pow10Tab := Lib.tabIs_of_head (e := 23) (n := 20) (zs := Lib.pow10Tab) (t := 75) (g := 0) (by kernel_rfl) (by kernel_rfl) Tryd.underlying75 Tryd.underlying23 (by kernel_rfl) (by kernel_rfl) (laidMet.tail (laidMet.tail h))
  have h4 : Lib.TabIs Tryd.prog w "domino/sha.start" .u32 Sum.H0 := Lib.tabIs_of_head (e := 38) (n := 8) (zs := Sum.H0) (t := 81) (g := 3) (by kernel_rfl) (by kernel_rfl) Tryd.underlying81 Tryd.underlying38 (by kernel_rfl) (by kernel_rfl) (laidMet.tail (laidMet.tail (laidMet.tail h)))
  have h5 : Lib.TabIs Tryd.prog w "domino/sha.words" .u32 Sum.K := Lib.tabIs_of_head (e := 38) (n := 64) (zs := Sum.K) (t := 79) (g := 4) (by kernel_rfl) (by kernel_rfl) Tryd.underlying79 Tryd.underlying38 (by kernel_rfl) (by kernel_rfl) (laidMet.tail (laidMet.tail (laidMet.tail (laidMet.tail h))))
  exact ⟨tab_of_var (by kernel_rfl) h4, tab_of_var (by kernel_rfl) h5, tabK_of_var (by kernel_rfl) h3⟩
end Go.Proofs.YtoelgcdjhekafaaDoor.Ky
namespace Go.Proofs.YtoelgcdjhekafaaDoor.Ky
open Go.RowKit Go.ChangeShapes Go.WideShapes
set_option linter.unusedVariables false

theorem place_fields : ∃ f0 f1 f2 f3 f4 : Field, Tryd.prog.underlying 25 = some (.struct #[f0, f1, f2, f3, f4]) ∧ (f0.offset = 0 ∧ f0.type = 3) ∧ (f1.offset = 1 ∧ f1.type = 3) ∧ (f2.offset = 2 ∧ f2.type = 3) ∧ (f3.offset = 3 ∧ f3.type = 23) ∧ (f4.offset = 4 ∧ f4.type = 3) :=
  ⟨_, _, _, _, _, Tryd.underlying25, ⟨rfl, rfl⟩, ⟨rfl, rfl⟩, ⟨rfl, rfl⟩, ⟨rfl, rfl⟩, ⟨rfl, rfl⟩⟩
section
variable {H : Type} {enc : TypeId × Value → H} {w : World} {base : Nat} {spare : Nat → Bool} {held : Bool}
theorem field_int {cs : List Value} {j n : Nat} {t : TypeId} {k : IntKind} {x : Option (DataW H × List MemPlace)} (hj : j < cs.length) (ht : Tryd.prog.underlying t = some (.int k)) (h : DataW.trod enc Tryd.prog w base spare held n t ((cs.drop j).take 1) = x) (hx : x.isSome = true) : ∃ z, cs[j]? = some (.int k z) ∧ (Lit.int k z).wf = true := by
  obtain ⟨y, rfl⟩ := Option.isSome_iff_exists.1 hx
  obtain ⟨z, h2, _, h3⟩ := DataW.trod_int ht h
  rw [List.drop_eq_getElem_cons hj] at h2
  simp only [List.take_succ_cons, List.take_zero] at h2
  exact ⟨z, by rw [List.getElem?_eq_getElem hj, (List.cons.inj h2).1], h3⟩
set_option maxRecDepth 100000 in
theorem open_place {r : Reach} {b0 : Nat} {v : Value} {d : DataW H} {p : List MemPlace} (hval : Value.okWide Tryd.prog w r b0 25 v) (h : DataW.Trod enc Tryd.prog w base spare held 25 v d p) :
    ∃ ph rr a t i : Int, v = .agg #[.int .i64 ph, .int .i64 rr, .int .i64 a, .int .u64 t, .int .i64 i] ∧ (Lit.int .i64 ph).wf = true ∧ (Lit.int .i64 rr).wf = true ∧ (Lit.int .i64 a).wf = true ∧ (Lit.int .u64 t).wf = true ∧ (Lit.int .i64 i).wf = true := by
  obtain ⟨f0, f1, f2, f3, f4, hu, ⟨o0, t0⟩, ⟨o1, t1⟩, ⟨o2, t2⟩, ⟨o3, t3⟩, ⟨o4, t4⟩⟩ := place_fields
  obtain ⟨cs, rfl, hsz⟩ := okWide_struct hu hval
  obtain ⟨fuel, hf⟩ := h
  simp only [Value.cells] at hf
  obtain ⟨xs, m, _, _, hl, hxl, hel⟩ := DataW.trod_struct hu hf
  have ci : Tryd.prog.cellsOf 3 = 1 := by kernel_rfl
  have cu : Tryd.prog.cellsOf 23 = 1 := by kernel_rfl
  have c5 : Tryd.prog.cellsOf 25 = 5 := by kernel_rfl
  rw [c5] at hl
  have hx5 : xs.length = 5 := hxl
  have e0 := hel 0 f0 rfl
  have e1 := hel 1 f1 rfl
  have e2 := hel 2 f2 rfl
  have e3 := hel 3 f3 rfl
  have e4 := hel 4 f4 rfl
  rw [o0, t0, ci] at e0
  rw [o1, t1, ci] at e1
  rw [o2, t2, ci] at e2
  rw [o3, t3, cu] at e3
  rw [o4, t4, ci] at e4
  obtain ⟨z0, q0, w0⟩ := field_int (by omega) Tryd.underlying3 e0 (by simp [hx5])
  obtain ⟨z1, q1, w1⟩ := field_int (by omega) Tryd.underlying3 e1 (by simp [hx5])
  obtain ⟨z2, q2, w2⟩ := field_int (by omega) Tryd.underlying3 e2 (by simp [hx5])
  obtain ⟨z3, q3, w3⟩ := field_int (by omega) Tryd.underlying23 e3 (by simp [hx5])
  obtain ⟨z4, q4, w4⟩ := field_int (by omega) Tryd.underlying3 e4 (by simp [hx5])
  refine ⟨z0, z1, z2, z3, z4, ?_, w0, w1, w2, w3, w4⟩
  congr 1
  apply Array.ext'
  apply List.ext_getElem?
  intro i
  match i with
  | 0 => exact q0
  | 1 => exact q1
  | 2 => exact q2
  | 3 => exact q3
  | 4 => exact q4
  | i + 5 => rw [List.getElem?_eq_none (by omega), List.getElem?_eq_none (by simp)]
end
end Go.Proofs.YtoelgcdjhekafaaDoor.Ky
namespace Go.Proofs.YtoelgcdjhekafaaDoor.Mem
open Go.RowKit Go.ChangeShapes Go.WideShapes
set_option linter.unusedVariables false

def numOf' : Value → Int
  | .int _ z => z
  | _ => 0
theorem open_arr {H : Type} {enc : TypeId × Value → H} {P : Program} {w : World} {base : Nat} {spare : Nat → Bool} {held : Bool} {r : Reach} {b0 n : Nat} {t e : TypeId} {k : IntKind} {v : Value} {d : DataW H} {p : List MemPlace}
    (ht : P.underlying t = some (.array n e)) (he : P.underlying e = some (.int k)) (ce : P.cellsOf e = 1) (ct : P.cellsOf t = n) (hval : Value.okWide P w r b0 t v) (h : DataW.Trod enc P w base spare held t v d p) :
    ∃ zs, v = .agg (arr k zs) ∧ zs.length = n ∧ ∀ z ∈ zs, (Lit.int k z).wf = true := by
  simp only [Value.okWide, ht] at hval
  obtain ⟨cs, rfl, hsz, _⟩ := hval
  obtain ⟨fuel, hf⟩ := h
  simp only [Value.cells] at hf
  obtain ⟨xs, m, _, _, hl, hxl, hel⟩ := DataW.trod_array ht hf
  have hn : cs.toList.length = n := by rw [hl, ct]
  have each : ∀ i (hi : i < cs.toList.length), ∃ z, cs.toList[i] = .int k z ∧ (Lit.int k z).wf = true := by
    intro i hi
    have h1 := hel i (by omega)
    rw [ce, Nat.mul_one, List.getElem?_eq_getElem (by omega)] at h1
    obtain ⟨z, h2, _, h3⟩ := DataW.trod_int he h1
    rw [List.drop_eq_getElem_cons hi] at h2
    simp only [List.take_succ_cons, List.take_zero] at h2
    exact ⟨z, (List.cons.inj h2).1, h3⟩
  refine ⟨cs.toList.map numOf', ?_, by simpa using hn, fun z hz => ?_⟩
  · congr 1
    unfold arr
    rw [List.map_map]
    have : cs.toList.map (Value.int k ∘ numOf') = cs.toList := by
      apply List.ext_getElem
      · simp
      · intro i h1 h2
        obtain ⟨z, hz, _⟩ := each i h2
        rw [List.getElem_map, hz]
        rfl
    rw [this]
  · obtain ⟨v, hv, rfl⟩ := List.mem_map.1 hz
    obtain ⟨i, hi, rfl⟩ := List.mem_iff_getElem.1 hv
    obtain ⟨z, hz', hw⟩ := each i hi
    rw [hz']
    exact hw
end Go.Proofs.YtoelgcdjhekafaaDoor.Mem
namespace Go.Proofs.YtoelgcdjhekafaaDoor.Ky
open Go.RowKit Go.Shelf Go.Proofs.YtoelgcdjhekafaaDoor.Mem Go.Proofs.YtoelgcdjhekafaaDoor.Po Go.Proofs.YtoelgcdjhekafaaDoor.Sum Go.Proofs.YtoelgcdjhekafaaDoor
set_option linter.unusedVariables false

theorem eql_arr_d {P : Program} (w : World) (t e : TypeId) (n : Nat) (k : IntKind) (xs ys : List Int) (ht : P.underlying t = some (.array n e)) (he : P.underlying e = some (.int k)) (hs : (P.info? e).map (·.size) = some 1) (hx : xs.length = n) (hy : ys.length = n) :
    (binOp .eql t (.agg (arr k xs)) (.agg (arr k ys))).run P w = .ok (.bool (decide (xs = ys))) w := by
  obtain ⟨inf, hi, h1⟩ := Option.map_eq_some_iff.1 hs
  have hc : P.cellsOf e = 1 := by simp [Program.cellsOf, hi, h1]
  have key : (Op.equalIn (9998 + 1 + 1) t (.agg (arr k xs)) (.agg (arr k ys))).run P w = .ok ((List.range n).all fun i => xs.getD i 0 == ys.getD i 0) w := by
    rw [run_equalIn_array w (9998 + 1) _ _ ht hi, hc]
    have hl : ∀ i ∈ List.range n, i < n := fun i hi => List.mem_range.1 hi
    generalize List.range n = l at hl ⊢
    induction l with
    | nil => simp [Op.eqItems]
    | cons i l ih =>
      have hi : i < n := hl i (by simp)
      have px : (Go.part e (arr k xs) (i * 1)).run P w = .ok (.int k (xs.getD i 0)) w := by
        have := arr_get k xs (i := i) (by omega)
        simp [Go.part, isAgg, run_underlying he, this]
      have py : (Go.part e (arr k ys) (i * 1)).run P w = .ok (.int k (ys.getD i 0)) w := by
        have := arr_get k ys (i := i) (by omega)
        simp [Go.part, isAgg, run_underlying he, this]
      have pe : (Op.equalIn (9998 + 1) e (.int k (xs.getD i 0)) (.int k (ys.getD i 0))).run P w = .ok (xs.getD i 0 == ys.getD i 0) w := run_equalIn_int w 9998 e k k _ _ he
      rw [Op.eqItems]
      simp only [Sem.run_bind, px, py, pe, Result.andThen_ok, List.all_cons]
      by_cases hq : xs.getD i 0 = ys.getD i 0
      · have hb : (xs.getD i 0 == ys.getD i 0) = true := by simpa using hq
        rw [hb]
        simp only [Bool.not_true, Bool.false_eq_true, if_false, Bool.true_and]
        exact ih fun j hj => hl j (by simp [hj])
      · have hb : (xs.getD i 0 == ys.getD i 0) = false := by simpa using hq
        rw [hb]
        simp
  have hall : ((List.range n).all fun i => xs.getD i 0 == ys.getD i 0) = decide (xs = ys) := by
    rw [Bool.eq_iff_iff]
    simp only [List.all_eq_true, List.mem_range, beq_iff_eq, decide_eq_true_eq]
    refine ⟨fun h => List.ext_getElem (by omega) fun i h1 h2 => ?_, fun h i _ => by rw [h]⟩
    have := h i (by omega)
    simpa [List.getD_eq_getElem?_getD, h1, h2] using this
  rw [run_eql_struct, show (10000 : Nat) = 9998 + 1 + 1 from rfl, key, hall]
  rfl

theorem eql_place (w : World) (ph rr ad t ix ph' rr' ad' t' ix' : Int) :
    (binOp .eql 25 (.agg #[.int .i64 ph, .int .i64 rr, .int .i64 ad, .int .u64 t, .int .i64 ix]) (.agg #[.int .i64 ph', .int .i64 rr', .int .i64 ad', .int .u64 t', .int .i64 ix'])).run Tryd.prog w =
      .ok (.bool (decide (ph = ph' ∧ rr = rr' ∧ ad = ad' ∧ t = t' ∧ ix = ix'))) w := by
  have hu : Tryd.prog.underlying 25 = some (.struct (Tryd.prog.fieldsOf 25)) := by kernel_rfl
  have hp : Tryd.prog.stoodInHeld 25 = false := by kernel_rfl
  have ei : ∀ (d : Nat) (k : IntKind) (x y : Int), (Op.equalIn (d + 1) 3 (.int k x) (.int k y)).run Tryd.prog w = .ok (x == y) w := fun d k x y => run_equalIn_int w d 3 k .i64 x y Tryd.underlying3
  have eu : ∀ (d : Nat) (k : IntKind) (x y : Int), (Op.equalIn (d + 1) 23 (.int k x) (.int k y)).run Tryd.prog w = .ok (x == y) w := fun d k x y => run_equalIn_int w d 23 k .u64 x y Tryd.underlying23
  have key : (Op.equalIn (9998 + 1 + 1) 25 (.agg #[.int .i64 ph, .int .i64 rr, .int .i64 ad, .int .u64 t, .int .i64 ix]) (.agg #[.int .i64 ph', .int .i64 rr', .int .i64 ad', .int .u64 t', .int .i64 ix'])).run Tryd.prog w = .ok (decide (ph = ph' ∧ rr = rr' ∧ ad = ad' ∧ t = t' ∧ ix = ix')) w := by
    rw [run_equalIn_agg w (9998 + 1) _ _ _ hu hp]
    simp only [Program.fieldsOf, Tryd.underlying25, Op.eqFields, Go.part, isAgg, Sem.run_bind, run_underlying Tryd.underlying3, run_underlying Tryd.underlying23, Result.andThen_ok, Sem.run_pure, ei, eu, Sem.run_ite]
    simp [ei, eu]
    by_cases h0 : ph = ph' <;> by_cases h1 : rr = rr' <;> by_cases h2 : ad = ad' <;> by_cases h3 : t = t' <;> by_cases h4 : ix = ix' <;> simp [h0, h1, h2, h3, h4]
  rw [run_eql_struct, show (10000 : Nat) = 9998 + 1 + 1 from rfl, key]
  rfl
section
variable {S : World → Prop} {ρ : Operand → Value} {o : Oper}
theorem y_eqp {ty : TypeId} {x y : Operand} {ph rr ad t ix ph' rr' ad' t' ix' : Int} {r : Bool} (ho : o.op = .binOp .eql 25 x y ty) (hx : ρ x = .agg #[.int .i64 ph, .int .i64 rr, .int .i64 ad, .int .u64 t, .int .i64 ix]) (hy : ρ y = .agg #[.int .i64 ph', .int .i64 rr', .int .i64 ad', .int .u64 t', .int .i64 ix'])
    (hr : decide (ph = ph' ∧ rr = rr' ∧ ad = ad' ∧ t = t' ∧ ix = ix') = r) : ∀ w, S w → (execOp ρ o).run Tryd.prog w = .ok (.value (.bool r)) w :=
  Held.y_bin ho hx hy (fun w => by simp [eqGuard, show Tryd.prog.eqGuardType Tryd.prog.depth 25 = false by kernel_rfl]) (fun w => by rw [← hr]; exact eql_place w ph rr ad t ix ph' rr' ad' t' ix')
theorem y_eqa {P : Program} {t e ty : TypeId} {x y : Operand} {k : IntKind} {xs ys : List Int} {n : Nat} {r : Bool} (ho : o.op = .binOp .eql t x y ty) (hx : ρ x = .agg (arr k xs)) (hy : ρ y = .agg (arr k ys)) (hr : decide (xs = ys) = r) (hq : P.eqGuardType P.depth t = false) (ht : P.underlying t = some (.array n e)) (he : P.underlying e = some (.int k)) (hs : (P.info? e).map (·.size) = some 1) (hn : xs.length = n) (hn' : ys.length = n) :
    ∀ w, S w → (execOp ρ o).run P w = .ok (.value (.bool r)) w := Held.y_bin ho hx hy (fun w => by simp [eqGuard, hq]) (fun w => by rw [← hr]; exact eql_arr_d w t e n k xs ys ht he hs hn hn')
theorem y_eqsd {P : Program} {t ty : TypeId} {x y : Operand} {xs ys : List UInt8} {r : Bool} (ho : o.op = .binOp .eql t x y ty) (hx : ρ x = .string ⟨xs.toArray⟩) (hy : ρ y = .string ⟨ys.toArray⟩) (hr : decide (xs = ys) = r) :
    ∀ w, S w → (execOp ρ o).run P w = .ok (.value (.bool r)) w := Held.y_bin ho hx hy (fun w => by simp [eqGuard]) (fun w => by
      have e : ((⟨xs.toArray⟩ : ByteArray).toList == (⟨ys.toArray⟩ : ByteArray).toList) = decide (xs = ys) := by
        rw [ByteArray.toList_eq, ByteArray.toList_eq, Bool.eq_iff_iff]
        simp
      rw [← hr, ← e]
      simp [binOp, Op.stringOp])
theorem y_eqid {P : Program} {t ty : TypeId} {x y : Operand} {k : IntKind} {a b : Int} {r : Bool} (ho : o.op = .binOp .eql t x y ty) (hx : ρ x = .int k a) (hy : ρ y = .int k b) (hr : decide (a = b) = r) :
    ∀ w, S w → (execOp ρ o).run P w = .ok (.value (.bool r)) w := Held.y_bin ho hx hy (fun w => by simp [eqGuard]) (fun w => by
      rw [← hr]
      simp [binOp, Op.intArith]
      try rfl)
end
/-! ### No two places have one name, or the same bytes beside; no two pairs one nonce -/
theorem dec_map (u : Nat) : (Lib.decDigits u).map (fun b => (b.toNat : Int)) = decN u := by
  induction u using decN.induct with
  | case1 n h =>
    rw [decN, if_pos h, Lib.decDigits_one h]
    have e : (UInt8.ofNat (48 + n)).toNat = 48 + n := by rw [UInt8.toNat_ofNat']; omega
    simp only [List.map_cons, List.map_nil, e]
    congr 1
  | case2 n h ih =>
    rw [decN, if_neg h, dec_big h, List.map_append, ih]
    have e : (UInt8.ofNat (48 + n % 10)).toNat = 48 + n % 10 := by rw [UInt8.toNat_ofNat']; omega
    simp only [List.map_cons, List.map_nil, e]
    congr 1
theorem itoa_map (v : Int) : (Lib.itoa v).map (fun b => (b.toNat : Int)) = decI v := by
  unfold Lib.itoa decI
  split
  · rw [List.map_cons, dec_map, show v.natAbs = (-v).toNat by omega]
    rfl
  · exact dec_map _
theorem nameU_map (ph r a : Int) (t : Nat) (i : Int) : (nameU ph r a t i).map (fun b => (b.toNat : Int)) = name ph r a t i := by
  unfold nameU name
  simp only [List.map_append, itoa_map, dec_map]
  rfl
theorem nameU_eq (ph r a : Int) (t : Nat) (i : Int) (ph' r' a' : Int) (t' : Nat) (i' : Int) : decide (nameU ph r a t i = nameU ph' r' a' t' i') = decide (ph = ph' ∧ r = r' ∧ a = a' ∧ (t : Int) = (t' : Int) ∧ i = i') := by
  rw [Bool.eq_iff_iff, decide_eq_true_eq, decide_eq_true_eq]
  refine ⟨fun h => ?_, fun ⟨h1, h2, h3, h4, h5⟩ => ?_⟩
  · have := congrArg (List.map (fun b : UInt8 => (b.toNat : Int))) h
    rw [nameU_map, nameU_map] at this
    obtain ⟨h1, h2, h3, h4, h5⟩ := name_inj this
    exact ⟨h1, h2, h3, by omega, h5⟩
  · obtain rfl : t = t' := by omega
    rw [h1, h2, h3, h5]
theorem u64_inj {x y : Int} (hx : I64 x) (hy : I64 y) (h : u64 x % 2 ^ 64 = u64 y % 2 ^ 64) : x = y := by
  unfold u64 at h
  unfold I64 at hx hy
  omega
theorem kAad_eq (ph r a t i ph' r' a' t' i' n : Int) (h1 : I64 ph) (h2 : I64 r) (h3 : I64 a) (h4 : (Lit.int .u64 t).wf = true) (h5 : I64 i) (g1 : I64 ph') (g2 : I64 r') (g3 : I64 a') (g4 : (Lit.int .u64 t').wf = true) (g5 : I64 i') :
    decide (kAad ph r a t i n = kAad ph' r' a' t' i' n) = decide (ph = ph' ∧ r = r' ∧ a = a' ∧ t = t' ∧ i = i') := by
  rw [Bool.eq_iff_iff, decide_eq_true_eq, decide_eq_true_eq]
  refine ⟨fun h => ?_, fun ⟨h1, h2, h3, h4, h5⟩ => by rw [h1, h2, h3, h4, h5]⟩
  obtain ⟨e1, e2⟩ := List.append_inj h (by rw [eights_length, eights_length]; rfl)
  have f1 := eights_inj (by simp) e1
  have f2 := eights_inj (by simp) e2
  simp only [List.map_cons, List.map_nil, List.cons.injEq, and_true] at f1 f2
  have q4 := wf_u64 h4
  have q4' := wf_u64 g4
  refine ⟨u64_inj h1 g1 f1.1, u64_inj h2 g2 f1.2.1, u64_inj h3 g3 f1.2.2, ?_, u64_inj h5 g5 f2.2⟩
  have := f2.1
  omega
theorem nonce_eq (a b i k : Int) (ha : (Lit.int .u64 a).wf = true) (hb : (Lit.int .u64 b).wf = true) (hi : 0 ≤ i ∧ i < 4294967296) (hk : 0 ≤ k ∧ k < 4294967296) : decide (nonce a i = nonce b k) = decide (a = b ∧ i = k) := by
  rw [Bool.eq_iff_iff, decide_eq_true_eq, decide_eq_true_eq]
  refine ⟨fun h => ?_, fun ⟨h1, h2⟩ => by rw [h1, h2]⟩
  obtain ⟨e1, e2⟩ := nonce_inj h
  have q := wf_u64 ha
  have q' := wf_u64 hb
  omega
end Go.Proofs.YtoelgcdjhekafaaDoor.Ky
