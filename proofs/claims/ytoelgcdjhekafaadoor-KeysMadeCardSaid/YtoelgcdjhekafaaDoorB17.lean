/-
  The laws' first line on package hkdf: it returns true. Conditions: the two tables of package sha lie where the program's text lays them.
  The laws' first line on package keys: it returns true; what the rows' condition on the tables gives. Conditions: the tables of packages sha and internal/strconv lie where the program's text lays them.
  What the frame of a proof says of a place that came in by value. No conditions beyond those stated.
  What the frame of a proof says of an array of numbers that came in by value. No program here. No conditions beyond those stated.
-/
import Derived.Test.YtoelgcdjhekafaaDoorB7
import Derived.Test.YtoelgcdjhekafaaDoorB9
import Derived.Test.YtoelgcdjhekafaaDoorB16
import Derived.Test.YtoelgcdjhekafaaDoorRows
import Derived.LaidMore
import Derived.Stop.Joined
import Derived.Stop.LaidErr
import Derived.Test.YtoelgcdjhekafaaDoorB14
import Derived.WideShapes
import Derived.ChangeArms
import Derived.Test.YtoelgcdjhekafaaDoorB1
namespace Go.Proofs.YtoelgcdjhekafaaDoor.Hkdf
open Go.RowKit Go.Shelf Go.Proofs.YtoelgcdjhekafaaDoor.Mem Go.Proofs.YtoelgcdjhekafaaDoor.Help Go.Proofs.YtoelgcdjhekafaaDoor.Sum Go.Proofs.YtoelgcdjhekafaaDoor.Sha Go.Proofs.YtoelgcdjhekafaaDoor.Mac Go.Proofs.YtoelgcdjhekafaaDoor
set_option linter.unusedVariables false
attribute [local irreducible] wpList

def key1 : List Int := [1, 0, 0, 0, 0, 0, 0, 0, 0, 0, 0, 0, 0, 0, 0, 0, 0, 0, 0, 0, 0, 0, 0, 0, 0, 0, 0, 0, 0, 0, 0, 0]
theorem key1_length : key1.length = 32 := rfl
theorem key1_wf : ∀ z ∈ key1, (Lit.int .u8 z).wf = true := by decide
/-- Expand to 40 bytes, nothing being said -/
theorem expand_40 (key : List Int) (hk : key.length = 32) (hkb : ∀ z ∈ key, (Lit.int .u8 z).wf = true) (w : World) (hT0 : Tab w 3 Sum.H0) (hT1 : Tab w 4 Sum.K) :
    Calls Tryd.prog 41 #[.agg (arr .u8 key), .slice none 0 0, .int .i64 40] w fun e w' => ∃ g, e = .returned (.tuple #[.slice (some ⟨g, 0, none⟩) 40 40, .int .i64 0]) ∧ w.heap.size ≤ g ∧ Row w' g 5 .u8 (out key [] 40) ∧ Below w.heap.size w w' :=
  expand_any key [] hk hkb w.heap.size none 0 0 40 w (Ints.nil _ _ _ _) (Nat.le_refl _) (Nat.le_refl _) (by simp [maxLen]) (by omega) (by omega) (by omega) hT0 hT1

end Go.Proofs.YtoelgcdjhekafaaDoor.Hkdf
namespace Go.Proofs.YtoelgcdjhekafaaDoor.Ky
open Go.RowKit Go.Shelf Go.Proofs.YtoelgcdjhekafaaDoor.Mem Go.Proofs.YtoelgcdjhekafaaDoor.Help Go.Proofs.YtoelgcdjhekafaaDoor.Sum Go.Proofs.YtoelgcdjhekafaaDoor.Sha Go.Proofs.YtoelgcdjhekafaaDoor.Mac Go.Proofs.YtoelgcdjhekafaaDoor.Po Go.Proofs.YtoelgcdjhekafaaDoor.Hkdf Go.Proofs.YtoelgcdjhekafaaDoor
set_option linter.unusedVariables false
attribute [local irreducible] wpList wpListIn Calls

/-- the tables lie where the text lays them -/
structure Laid (w : World) : Prop where
  start : Tab w 3 Sum.H0
  words : Tab w 4 Sum.K
  pow : Pow w
theorem Laid.below {w w' : World} (h : Laid w) (hb : Below w.heap.size w w') : Laid w' := ⟨h.start.below hb h.start.lt, h.words.below hb h.words.lt, TabK.below h.pow hb (TabK.lt h.pow)⟩
theorem i64_zero : I64 0 := by unfold I64; omega
theorem name_zero : nameU 0 0 0 0 0 = [112, 48, 46, 114, 48, 46, 97, 48, 46, 116, 48, 46, 105, 48] := by
  have e : Lib.itoa 0 = [48] := by unfold Lib.itoa; rw [if_neg (by omega)]; exact Lib.decDigits_one (by omega)
  have d : Lib.decDigits 0 = [48] := Lib.decDigits_one (by omega)
  rw [nameU, e, d]
  rfl
theorem kJob_length (m : List Int) (i : Int) : (kJob m i).length = 32 := hkey_length _ _ _
theorem kJob_wf (m : List Int) (i : Int) : ∀ z ∈ kJob m i, (Lit.int .u8 z).wf = true := hkey_wf _ _ _

/-- a literal, behind a guard that is open -/
theorem wpList_buildG {P : Program} {ops : Array Oper} {rest : List Oper} {o : Oper} {a : Act} {w : World} {Q : Exit → Act → World → Prop} (hw : Region.wanted o (yielded ops a.tmps) = true) (t : TypeId) (parts : Array (Nat × Operand)) (ho : o.op = .build t parts) (cs : Array Value)
    (hf : P.built t (parts.map fun (i, x) => (i, a.eval x)).toList = some cs) (h : wpList P ops Q rest (a.put o.dst (.agg cs)) w) : wpList P ops Q (o :: rest) a w := by
  refine wpList_step fun K hK => ?_
  rw [if_pos hw]
  unfold Oper.wp execOp
  simp only [ho, Sem.run_bind, run_build w t _ _ hf, Result.andThen_ok]
  exact hK _ _ h
set_option maxRecDepth 100000 in
set_option maxHeartbeats 2000000 in
theorem awake8_any (w : World) (hL : Laid w) : Calls Tryd.prog 8 #[] w fun e w' => e = .returned (.bool true) ∧ Below w.heap.size w w' := by
  go_enter Tryd.func8, Tryd.ntmps8
  go_wp2_with (refine wpList_buildG rfl 25 _ rfl #[.int .i64 0, .int .i64 0, .int .i64 0, .int .u64 0, .int .i64 0] (by kernel_rfl) ?_)
  refine (name_any 0 0 0 0 0 i64_zero i64_zero i64_zero (by omega) i64_zero w hL.pow).mono ?_
  rintro e w1 ⟨rfl, b1⟩
  rw [name_zero]
  have L1 := hL.below b1
  go_wp2_with (refine wpList_buildG rfl 22 _ rfl (arr .u8 key1) (by kernel_rfl) ?_)
  refine (job_any key1 key1_length key1_wf 2 (by decide) w1 L1.start L1.words).mono ?_
  rintro e w2 ⟨rfl, b2⟩
  have b12 := b1.trans (b2.mono b1.size)
  go_wp2_with (refine wpList_buildG rfl 22 _ rfl (arr .u8 key1) (by kernel_rfl) ?_)
  refine (rjob_any key1 key1_length key1_wf 2 w2).mono ?_
  rintro e w3 ⟨rfl, b3⟩
  have b13 := b12.trans (b3.mono b12.size)
  have heq := fun W => eql_arr (P := Tryd.prog) W 22 5 32 .u8 (kJob key1 2) Tryd.underlying22 Tryd.underlying5 (by kernel_rfl) (kJob_length key1 2)
  have hgu : Tryd.prog.eqGuardType Tryd.prog.depth 22 = false := by kernel_rfl
  generalize kJob key1 2 = ks at heq ⊢
  go_wp2_with fail

  go_ret
  exact ⟨rfl, b13⟩

def keysLaid : List (String × DataW Unit) := [("math/bits.deBruijn32tab", Rows.laid_math_bits_deBruijn32tab), ("math/bits.deBruijn64tab", Rows.laid_math_bits_deBruijn64tab), ("internal/strconv.uint64pow10", Rows.laid_internal_strconv_uint64pow10), ("domino/sha.start", Rows.laid_domino_sha_start), ("domino/sha.words", Rows.laid_domino_sha_words)]
set_option maxRecDepth 100000 in
theorem laid_of {w : World} (h : laidMetH Tryd.prog keysLaid w) : Laid w := by
  rw [MakeChecks.laidMetH_plain _ _ _ (by kernel_rfl)] at h
  have h3 : Lib.TabIs Tryd.prog w "internal/strconv.uint64pow10" .u64 Lib.pow10Tab := Lib.tabIs_of_head (e := 23) (n := 20) (zs := Lib.pow10Tab) (t := 75) (g := 0) (by kernel_rfl) (by kernel_rfl) Tryd.underlying75 Tryd.underlying23 (by kernel_rfl) (by kernel_rfl) (laidMet.tail (laidMet.tail h))
  have h4 : Lib.TabIs Tryd.prog w "domino/sha.start" .u32 Sum.H0 := Lib.tabIs_of_head (e := 38) (n := 8) (zs := Sum.H0) (t := 81) (g := 3) (by kernel_rfl) (by kernel_rfl) Tryd.underlying81 Tryd.underlying38 (by kernel_rfl) (by kernel_rfl) (laidMet.tail (laidMet.tail (laidMet.tail h)))
  have h5 : Lib.TabIs Tryd.prog w "domino/sha.words" .u32 Sum.K := Lib.tabIs_of_head (e := 38) (n := 64) (zs := Sum.K) (t := 79) (g := 4) (by kernel_rfl) (by kernel_rfl) Tryd.underlying79 Tryd.underlying38 (by kernel_rfl) (by kernel_rfl) (laidMet.tail (laidMet.tail (laidMet.tail (laidMet.tail h))))
  exact ⟨tab_of_var (by kernel_rfl) h4, tab_of_var (by kernel_rfl) h5, tabK_of_var (by kernel_rfl) h3⟩
end Go.Proofs.YtoelgcdjhekafaaDoor.Ky
namespace Go.Proofs.YtoelgcdjhekafaaDoor.Ky
open Go.RowKit Go.ChangeShapes Go.WideShapes
set_option linter.unusedVariables false

theorem place_fields : ∃ f0 f1 f2 f3 f4 : Field, Tryd.prog.underlying 25 = some (.struct #[f0, f1, f2, f3, f4]) ∧ (f0.offset = 0 ∧ f0.type = 3) ∧ (f1.offset = 1 ∧ f1.type = 3) ∧ (f2.offset = 2 ∧ f2.type = 3) ∧ (f3.offset = 3 ∧ f3.type = 23) ∧ (f4.offset = 4 ∧ f4.type = 3) :=
  ⟨_, _, _, _, _, Tryd.underlying25, ⟨rfl, rfl⟩, ⟨rfl, rfl⟩, ⟨rfl, rfl⟩, ⟨rfl, rfl⟩, ⟨rfl, rfl⟩⟩
section
variable {H : Type} {enc : TypeId × Value → H} {w : World} {base : Nat} {spare : Nat → Bool} {held : Bool}
theorem field_int {cs : List Value} {j n : Nat} {t : TypeId} {k : IntKind} {x : Option (DataW H × List MemPlace)} (hj : j < cs.length) (ht : Tryd.prog.underlying t = some (.int k)) (h : DataW.trod enc Tryd.prog w base spare held n t ((cs.drop j).take 1) = x) (hx : x.isSome = true) : ∃ z, cs[j]? = some (.int k z) ∧ (Lit.int k z).wf = true := by
  obtain ⟨y, rfl⟩ := Option.isSome_iff_exists.1 hx
  obtain ⟨z, h2, _, h3⟩ := DataW.trod_int ht h
  rw [List.drop_eq_getElem_cons hj] at h2
  simp only [List.take_succ_cons, List.take_zero] at h2
  exact ⟨z, by rw [List.getElem?_eq_getElem hj, (List.cons.inj h2).1], h3⟩
set_option maxRecDepth 100000 in
theorem open_place {r : Reach} {b0 : Nat} {v : Value} {d : DataW H} {p : List MemPlace} (hval : Value.okWide Tryd.prog w r b0 25 v) (h : DataW.Trod enc Tryd.prog w base spare held 25 v d p) :
    ∃ ph rr a t i : Int, v = .agg #[.int .i64 ph, .int .i64 rr, .int .i64 a, .int .u64 t, .int .i64 i] ∧ (Lit.int .i64 ph).wf = true ∧ (Lit.int .i64 rr).wf = true ∧ (Lit.int .i64 a).wf = true ∧ (Lit.int .u64 t).wf = true ∧ (Lit.int .i64 i).wf = true := by
  obtain ⟨f0, f1, f2, f3, f4, hu, ⟨o0, t0⟩, ⟨o1, t1⟩, ⟨o2, t2⟩, ⟨o3, t3⟩, ⟨o4, t4⟩⟩ := place_fields
  obtain ⟨cs, rfl, hsz⟩ := okWide_struct hu hval
  obtain ⟨fuel, hf⟩ := h
  simp only [Value.cells] at hf
  obtain ⟨xs, m, _, _, hl, hxl, hel⟩ := DataW.trod_struct hu hf
  have ci : Tryd.prog.cellsOf 3 = 1 := by kernel_rfl
  have cu : Tryd.prog.cellsOf 23 = 1 := by kernel_rfl
  have c5 : Tryd.prog.cellsOf 25 = 5 := by kernel_rfl
  rw [c5] at hl
  have hx5 : xs.length = 5 := hxl
  have e0 := hel 0 f0 rfl
  have e1 := hel 1 f1 rfl
  have e2 := hel 2 f2 rfl
  have e3 := hel 3 f3 rfl
  have e4 := hel 4 f4 rfl
  rw [o0, t0, ci] at e0
  rw [o1, t1, ci] at e1
  rw [o2, t2, ci] at e2
  rw [o3, t3, cu] at e3
  rw [o4, t4, ci] at e4
  obtain ⟨z0, q0, w0⟩ := field_int (by omega) Tryd.underlying3 e0 (by simp [hx5])
  obtain ⟨z1, q1, w1⟩ := field_int (by omega) Tryd.underlying3 e1 (by simp [hx5])
  obtain ⟨z2, q2, w2⟩ := field_int (by omega) Tryd.underlying3 e2 (by simp [hx5])
  obtain ⟨z3, q3, w3⟩ := field_int (by omega) Tryd.underlying23 e3 (by simp [hx5])
  obtain ⟨z4, q4, w4⟩ := field_int (by omega) Tryd.underlying3 e4 (by simp [hx5])
  refine ⟨z0, z1, z2, z3, z4, ?_, w0, w1, w2, w3, w4⟩
  congr 1
  apply Array.ext'
  apply List.ext_getElem?
  intro i
  match i with
  | 0 => exact q0
  | 1 => exact q1
  | 2 => exact q2
  | 3 => exact q3
  | 4 => exact q4
  | i + 5 => rw [List.getElem?_eq_none (by omega), List.getElem?_eq_none (by simp)]
end
end Go.Proofs.YtoelgcdjhekafaaDoor.Ky
namespace Go.Proofs.YtoelgcdjhekafaaDoor.Mem
open Go.RowKit Go.ChangeShapes Go.WideShapes
set_option linter.unusedVariables false

def numOf' : Value → Int
  | .int _ z => z
  | _ => 0
theorem open_arr {H : Type} {enc : TypeId × Value → H} {P : Program} {w : World} {base : Nat} {spare : Nat → Bool} {held : Bool} {r : Reach} {b0 n : Nat} {t e : TypeId} {k : IntKind} {v : Value} {d : DataW H} {p : List MemPlace}
    (ht : P.underlying t = some (.array n e)) (he : P.underlying e = some (.int k)) (ce : P.cellsOf e = 1) (ct : P.cellsOf t = n) (hval : Value.okWide P w r b0 t v) (h : DataW.Trod enc P w base spare held t v d p) :
    ∃ zs, v = .agg (arr k zs) ∧ zs.length = n ∧ ∀ z ∈ zs, (Lit.int k z).wf = true := by
  simp only [Value.okWide, ht] at hval
  obtain ⟨cs, rfl, hsz, _⟩ := hval
  obtain ⟨fuel, hf⟩ := h
  simp only [Value.cells] at hf
  obtain ⟨xs, m, _, _, hl, hxl, hel⟩ := DataW.trod_array ht hf
  have hn : cs.toList.length = n := by rw [hl, ct]
  have each : ∀ i (hi : i < cs.toList.length), ∃ z, cs.toList[i] = .int k z ∧ (Lit.int k z).wf = true := by
    intro i hi
    have h1 := hel i (by omega)
    rw [ce, Nat.mul_one, List.getElem?_eq_getElem (by omega)] at h1
    obtain ⟨z, h2, _, h3⟩ := DataW.trod_int he h1
    rw [List.drop_eq_getElem_cons hi] at h2
    simp only [List.take_succ_cons, List.take_zero] at h2
    exact ⟨z, (List.cons.inj h2).1, h3⟩
  refine ⟨cs.toList.map numOf', ?_, by simpa using hn, fun z hz => ?_⟩
  · congr 1
    unfold arr
    rw [List.map_map]
    have : cs.toList.map (Value.int k ∘ numOf') = cs.toList := by
      apply List.ext_getElem
      · simp
      · intro i h1 h2
        obtain ⟨z, hz, _⟩ := each i h2
        rw [List.getElem_map, hz]
        rfl
    rw [this]
  · obtain ⟨v, hv, rfl⟩ := List.mem_map.1 hz
    obtain ⟨i, hi, rfl⟩ := List.mem_iff_getElem.1 hv
    obtain ⟨z, hz', hw⟩ := each i hi
    rw [hz']
    exact hw
end Go.Proofs.YtoelgcdjhekafaaDoor.Mem
