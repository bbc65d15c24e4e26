/-
  A table of numbers of any kind at a package-level variable's block; an array out of a slice, and out of the middle of a block: no program here. No conditions beyond those stated.
-/
import Derived.Test.YtdfnacnklmmjhaaCell
import Derived.Test.YtdfnacnklmmjhaaTabO
import Derived.Test.YtdfnacnklmmjhaaPo3
import Derived.Lib.EndianBits
namespace Go.Proofs.Ytdfnacnklmmjhaa.Po
open Go.RowKit Go.Proofs.Ytdfnacnklmmjhaa.Mem Go.Proofs.Ytdfnacnklmmjhaa.Sum
set_option linter.unusedVariables false

/-- a table of numbers of kind k, at a variable's block -/
def TabK (w : World) (g : Nat) (k : IntKind) (zs : List Int) : Prop := ∃ t fr, w.heap[g]? = some (.cells (arr k zs) t fr)
section
variable {w w' : World} {g : Nat} {k : IntKind} {zs : List Int}
theorem TabK.lt (h : TabK w g k zs) : g < w.heap.size := by obtain ⟨t, fr, h⟩ := h; exact (Array.getElem?_eq_some_iff.1 h).1
theorem TabK.below {B : Nat} (h : TabK w g k zs) (hb : Below B w w') (hg : g < B) : TabK w' g k zs := by obtain ⟨t, fr, h⟩ := h; exact ⟨t, fr, (hb.block g hg).trans h⟩
theorem TabK.cell (h : TabK w g k zs) {i : Nat} (hi : i < zs.length) : w.cell? ⟨g, i, none⟩ = some (.int k (zs.getD i 0)) := by
  obtain ⟨t, fr, h⟩ := h
  rw [cell_of_row w g i _ t fr h, arr_get _ _ hi]
theorem TabK.only {S : Nat → Prop} (h : TabK w g k zs) (ho : Only S w w') (hg : ¬ S g) : TabK w' g k zs := by
  obtain ⟨t, fr, h⟩ := h
  exact ⟨t, fr, ho.block g _ hg h rfl⟩
end
theorem tabK_of_var {P : Program} {w : World} {name : String} {g : Nat} {k : IntKind} {zs : List Int} (hg : P.globalNamed name = some g) (h : Lib.TabIs P w name k zs) : TabK w g k zs := by
  unfold Lib.TabIs World.var? at h
  rw [hg, Option.bind_some] at h
  cases hb : w.heap[g]? with
  | none => rw [hb] at h; cases h
  | some o =>
    rw [hb] at h
    cases o with
    | cells cs t fr => simp only [Option.some.injEq] at h; exact ⟨t, fr, by rw [hb, h]; rfl⟩
    | _ => cases h

section
variable {P : Program} {ops : Array Oper} {rest : List Oper} {o : Oper} {a : Act} {w : World} {Q : Exit → Act → World → Prop}
/-- an array out of a slice: its address -/
theorem wpList_arrayAt (hgd : o.guard = none) (ty : TypeId) (x : Operand) (ho : o.op = .sliceToArrayPointer ty x) (A : Option Addr) (len cap n : Nat) (e : TypeId) (hx : a.eval x = .slice A len cap) (hu : P.underlying ty = some (.array n e)) (hn : n ≤ len)
    (h : wpList P ops Q rest (a.put o.dst (.pointer A)) w) : wpList P ops Q (o :: rest) a w := by
  refine wpList_plain hgd fun K hK => ?_
  have hl : ¬ len < n := by omega
  unfold Oper.wp execOp
  simp only [ho, hx, Instr.arrayAt, Sem.run_bind, run_underlying hu, Result.andThen_ok, hl, if_false, Sem.run_pure]
  exact hK _ _ h
theorem rangeAt_row {g : Nat} {t : TypeId} {k : IntKind} {zs : List Int} (hr : Row w g t k zs) (off n : Nat) : w.rangeAt g off (((zs.drop off).take n).map (Value.int k)) := fun j v hv => by
  have hj := (List.getElem?_eq_some_iff.1 hv).1
  simp only [List.length_map, List.length_take, List.length_drop] at hj
  rw [hr.cell (by omega), ← hv]
  simp [List.getD_eq_getElem?_getD, show j < n by omega, show off + j < zs.length by omega]
/-- some numbers of a block that is known whole, as an array -/
theorem wpList_load_midRow (hgd : o.guard = none) (ty : TypeId) (x : Operand) (ho : o.op = .load ty x) (g off : Nat) (hx : a.eval x = .pointer (some ⟨g, off, none⟩)) (t : TypeId) (k : IntKind) (zs : List Int) (hr : Row w g t k zs) (n : Nat) (e : TypeId)
    (hu : P.underlying ty = some (.array n e)) (hi : (P.info? ty).map (·.size) = some n) (hn : off + n ≤ zs.length) (h : wpList P ops Q rest (a.put o.dst (.agg (arr k ((zs.drop off).take n)))) w) : wpList P ops Q (o :: rest) a w := by
  refine wpList_load_mid hgd ty x ho g off hx (((zs.drop off).take n).map (Value.int k)) _ (rangeAt_row hr off n) hu rfl (by rw [hi]; simp; omega) ?_
  exact h
end

/-! ### Masks -/
theorem mask_u64 (x : Int) (n : Nat) (hx : 0 ≤ x) (hx' : x < 18446744073709551616) (hn : n ≤ 63) : bits .and .u64 x (2 ^ n - 1) = x % 2 ^ n := by
  obtain ⟨a, rfl⟩ := Int.eq_ofNat_of_zero_le hx
  have hp : (2 : Nat) ^ n ≤ 2 ^ 63 := Nat.pow_le_pow_right (by omega) hn
  have h1 : 0 < 2 ^ n := Nat.pow_pos (by omega)
  have e : ((2 : Int) ^ n - 1) = ((2 ^ n - 1 : Nat) : Int) := by
    rw [Int.natCast_sub h1, Int.natCast_pow]
    rfl
  rw [e, u64_and _ _ hx hx' (by omega) (by omega), Int.toNat_natCast, Int.toNat_natCast, Nat.and_two_pow_sub_one_eq_mod, Int.natCast_emod, Int.natCast_pow]
  rfl
theorem mask_limb (x : Int) (hx : 0 ≤ x) (hx' : x < 18446744073709551616) : bits .and .u64 x 67108863 = x % 67108864 := mask_u64 x 26 hx hx' (by omega)
theorem mask_u32 (x : Int) (n : Nat) (hx : 0 ≤ x) (hx' : x < 4294967296) (hn : n ≤ 31) : bits .and .u32 x (2 ^ n - 1) = x % 2 ^ n := by
  obtain ⟨a, rfl⟩ := Int.eq_ofNat_of_zero_le hx
  have hp : (2 : Nat) ^ n ≤ 2 ^ 31 := Nat.pow_le_pow_right (by omega) hn
  have h1 : 0 < 2 ^ n := Nat.pow_pos (by omega)
  have e : ((2 : Int) ^ n - 1) = ((2 ^ n - 1 : Nat) : Int) := by
    rw [Int.natCast_sub h1, Int.natCast_pow]
    rfl
  rw [e, u32_and _ _ hx hx' (by omega) (by omega), Int.toNat_natCast, Int.toNat_natCast, Nat.and_two_pow_sub_one_eq_mod, Int.natCast_emod, Int.natCast_pow]
  rfl
theorem mask_byte (x : Int) (hx : 0 ≤ x) (hx' : x < 4294967296) : bits .and .u32 x 255 = x % 256 := mask_u32 x 8 hx hx' (by omega)
theorem mask_two (x : Int) (hx : 0 ≤ x) (hx' : x < 4294967296) : bits .and .u32 x 3 = x % 4 := mask_u32 x 2 hx hx' (by omega)
theorem and8 : ∀ x : Fin 256, bits .and .u8 (x.val : Int) 15 = x.val % 16 ∧ bits .and .u8 (x.val : Int) 252 = x.val / 4 * 4 ∧ bits .and .u8 (x.val : Int) 255 = x.val ∧ bits .and .u8 (x.val : Int) 127 = x.val % 128 := by decide +kernel
theorem and_byte {x : Int} (h : 0 ≤ x ∧ x ≤ 255) : bits .and .u8 x 15 = x % 16 ∧ bits .and .u8 x 252 = x / 4 * 4 ∧ bits .and .u8 x 255 = x ∧ bits .and .u8 x 127 = x % 128 := by
  have := and8 ⟨x.toNat, by omega⟩
  rwa [show ((x.toNat : Nat) : Int) = x by omega] at this
def keptI : List Int := [255, 255, 255, 15, 252, 255, 255, 15, 252, 255, 255, 15, 252, 255, 255, 15]
theorem kept_get : ∀ i : Fin 16, keptI.getD i.val 0 = if i.val % 4 = 3 then 15 else if i.val = 4 ∨ i.val = 8 ∨ i.val = 12 then 252 else 255 := by decide
theorem clamp_kept {key : List Int} (h : Bs key) {i : Nat} (hi : i < 16) : bits .and .u8 (key.getD i 0) (keptI.getD i 0) = (clamp key).getD i 0 := by
  have e : (clamp key).getD i 0 = clampAt key i := by simp [clamp, List.getD_eq_getElem?_getD, hi]
  have k := kept_get ⟨i, hi⟩
  simp only at k
  have a := and_byte (h.at_ i)
  rw [e, k, clampAt]
  split
  · exact a.1
  · split
    · exact a.2.1
    · exact a.2.2.1
theorem wf_byte {z : Int} (h : 0 ≤ z ∧ z ≤ 255) : (Lit.int .u8 z).wf = true := by simp [Lit.wf, IntKind.min, IntKind.max, IntKind.signed, IntKind.bits]; omega
theorem bs_wf {zs : List Int} (h : Bs zs) : ∀ z ∈ zs, (Lit.int .u8 z).wf = true := fun z hz => wf_byte (h z hz)
theorem wf_64 {z : Int} (h : 0 ≤ z ∧ z < 18446744073709551616) : (Lit.int .u64 z).wf = true := by simp [Lit.wf, IntKind.min, IntKind.max, IntKind.signed, IntKind.bits]; omega
theorem wf_32 {z : Int} (h : 0 ≤ z ∧ z < 4294967296) : (Lit.int .u32 z).wf = true := by simp [Lit.wf, IntKind.min, IntKind.max, IntKind.signed, IntKind.bits]; omega
end Go.Proofs.Ytdfnacnklmmjhaa.Po

