/-
  Plain facts about the bits of unsigned numbers: no program here.
  The functions of package ct, each by its contract: what it returns for any numbers.
  Names, and numbers as bytes, of package keys, as plain functions: no program here.
  What a record is to the program, as plain functions; package record's one, leads, Before, Ahead, Dead, and the document's own, by their contracts.
  What the frame of a proof says of a record that came in by value; two records, two arrays of numbers held against each other.
-/
import Derived.WalkKit
import Derived.Test.YtjelacblnjbfgaaGreatDoorRows
import Derived.ProofKit
import Derived.OpenShut
import Derived.Lib.Hide
import Derived.Test.YtjelacblnjbfgaaGreatDoorB9
import Derived.Test.YtjelacblnjbfgaaGreatDoorB8
import Derived.Test.YtjelacblnjbfgaaGreatDoorB4
import Derived.WideShapes
import Derived.ChangeArms
import Derived.Laws.StructEq
set_option linter.unusedVariables false
namespace Go.Proofs.YtjelacblnjbfgaaGreatDoor.Bit
open Go.RowKit
def low (x y : Int) : Int := if x < y then 1 else 0
def alike (x y : Int) : Int := if x = y then 1 else 0
def pickI (c x y : Int) : Int := if c % 2 = 1 then x else y
theorem xor_u64_range (x y : Int) (hx : 0 ≤ x) (hx' : x < 18446744073709551616) (hy : 0 ≤ y) (hy' : y < 18446744073709551616) :
    0 ≤ bits .xor .u64 x y ∧ bits .xor .u64 x y < 18446744073709551616 := by
  rw [u64_xor x y hx hx' hy hy']
  have h : x.toNat ^^^ y.toNat < 2 ^ 64 := Nat.xor_lt_two_pow (by omega) (by omega)
  omega
theorem or_neg (d : Nat) (h : 0 < d) (h' : d < 18446744073709551616) : (d ||| (18446744073709551616 - d)) / 9223372036854775808 = 1 := by
  have a : d ≤ d ||| (18446744073709551616 - d) := Nat.left_le_or
  have b : 18446744073709551616 - d ≤ d ||| (18446744073709551616 - d) := Nat.right_le_or
  have c : d ||| (18446744073709551616 - d) < 2 ^ 64 := Nat.or_lt_two_pow (by omega) (by omega)
  omega
theorem zero_flag (d : Int) (h : 0 ≤ d) (h' : d < 18446744073709551616) :
    bits .xor .u64 1 (bits .or .u64 d (IntKind.u64.wrap (-d)) / 9223372036854775808) = alike d 0 := by
  rw [IntKind.wrap_u64]
  by_cases z : d = 0
  · subst z; rfl
  · have e : -d % 18446744073709551616 = 18446744073709551616 - d := by omega
    rw [e, u64_or d _ h h' (by omega) (by omega)]
    have f : (18446744073709551616 - d).toNat = 18446744073709551616 - d.toNat := by omega
    have g := or_neg d.toNat (by omega) (by omega)
    rw [f]
    have k : ((d.toNat ||| (18446744073709551616 - d.toNat) : Nat) : Int) / 9223372036854775808 = 1 := by omega
    rw [k]
    unfold alike
    rw [if_neg z]
    rfl
theorem xor_zero (x y : Int) (hx : 0 ≤ x) (hx' : x < 18446744073709551616) (hy : 0 ≤ y) (hy' : y < 18446744073709551616) : alike (bits .xor .u64 x y) 0 = alike x y := by
  rw [u64_xor x y hx hx' hy hy']
  obtain ⟨a, rfl⟩ := Int.eq_ofNat_of_zero_le hx
  obtain ⟨b, rfl⟩ := Int.eq_ofNat_of_zero_le hy
  simp only [Int.toNat_natCast]
  unfold alike
  by_cases e : a = b
  · subst e; simp
  · have n : a ^^^ b ≠ 0 := fun h => e (by rw [← Nat.xor_zero a, ← Nat.xor_self b, ← Nat.xor_assoc, h, Nat.zero_xor])
    rw [if_neg (by omega), if_neg (by omega)]
theorem same_eq (x y : Int) (hx : 0 ≤ x) (hx' : x < 18446744073709551616) (hy : 0 ≤ y) (hy' : y < 18446744073709551616) :
    bits .xor .u64 1 (bits .or .u64 (bits .xor .u64 x y) (IntKind.u64.wrap (-bits .xor .u64 x y)) / 9223372036854775808) = alike x y := by
  have r := xor_u64_range x y hx hx' hy hy'
  rw [zero_flag _ r.1 r.2, xor_zero x y hx hx' hy hy']
theorem and_one (c : Int) (h : 0 ≤ c) (h' : c < 18446744073709551616) : bits .and .u64 c 1 = c % 2 := by
  rw [u64_and c 1 h h' (by omega) (by omega)]
  have : (1 : Int).toNat = 1 := rfl
  rw [this, Nat.and_one_is_mod]
  omega
theorem pick_eq (c x y : Int) (hc : 0 ≤ c) (hc' : c < 18446744073709551616) (hx : 0 ≤ x) (hx' : x < 18446744073709551616) (hy : 0 ≤ y) (hy' : y < 18446744073709551616) :
    bits .xor .u64 y (bits .and .u64 (IntKind.u64.wrap (-bits .and .u64 c 1)) (bits .xor .u64 x y)) = pickI c x y := by
  have r := xor_u64_range x y hx hx' hy hy'
  rw [and_one c hc hc', IntKind.wrap_u64]
  unfold pickI
  by_cases o : c % 2 = 1
  · rw [if_pos o, o]
    have e : (-1 : Int) % 18446744073709551616 = 18446744073709551615 := rfl
    rw [e, u64_and _ _ (by omega) (by omega) r.1 r.2, u64_xor x y hx hx' hy hy']
    have f : (18446744073709551615 : Int).toNat = 18446744073709551615 := rfl
    have g : x.toNat ^^^ y.toNat < 2 ^ 64 := Nat.xor_lt_two_pow (by omega) (by omega)
    rw [f, Int.toNat_natCast, Nat.and_comm, show (18446744073709551615 : Nat) = 2 ^ 64 - 1 from rfl, Nat.and_two_pow_sub_one_eq_mod, Nat.mod_eq_of_lt g, u64_xor y _ hy hy' (by omega) (by omega), Int.toNat_natCast]
    rw [Nat.xor_comm x.toNat, ← Nat.xor_assoc, Nat.xor_self, Nat.zero_xor]
    omega
  · have z : c % 2 = 0 := by omega
    rw [if_neg o, z]
    have e : (-0 : Int) % 18446744073709551616 = 0 := rfl
    have f : (0 : Int).toNat = 0 := rfl
    rw [e, u64_and _ _ (by omega) (by omega) r.1 r.2, f, Nat.zero_and, u64_xor y _ hy hy' (by omega) (by omega)]
    simp
    omega
theorem nat_xor_zero {a b : Nat} : a ^^^ b = 0 ↔ a = b :=
  ⟨fun h => by rw [← Nat.xor_zero a, ← Nat.xor_self b, ← Nat.xor_assoc, h, Nat.zero_xor], fun h => by rw [h]; exact Nat.xor_self b⟩
theorem nat_or_zero {a b : Nat} : a ||| b = 0 ↔ a = 0 ∧ b = 0 := by
  constructor
  · intro h
    have h1 : a ≤ a ||| b := Nat.left_le_or
    have h2 : b ≤ a ||| b := Nat.right_le_or
    omega
  · rintro ⟨rfl, rfl⟩; rfl
theorem gather_u8 (d x y : Int) (hd : 0 ≤ d ∧ d ≤ 255) (hx : 0 ≤ x ∧ x ≤ 255) (hy : 0 ≤ y ∧ y ≤ 255) :
    0 ≤ bits .or .u8 d (bits .xor .u8 x y) ∧ bits .or .u8 d (bits .xor .u8 x y) ≤ 255 ∧ (bits .or .u8 d (bits .xor .u8 x y) = 0 ↔ d = 0 ∧ x = y) := by
  rw [u8_xor x y (by omega) (by omega) (by omega) (by omega)]
  have h1 : x.toNat ^^^ y.toNat < 2 ^ 8 := Nat.xor_lt_two_pow (by omega) (by omega)
  rw [u8_or d _ (by omega) (by omega) (by omega) (by omega), Int.toNat_natCast]
  have h2 : d.toNat ||| (x.toNat ^^^ y.toNat) < 2 ^ 8 := Nat.or_lt_two_pow (by omega) h1
  refine ⟨by omega, by omega, ?_⟩
  have h3 := nat_or_zero (a := d.toNat) (b := x.toNat ^^^ y.toNat)
  have h4 := nat_xor_zero (a := x.toNat) (b := y.toNat)
  constructor
  · intro h
    have h5 := h3.1 (by omega)
    have h6 := h4.1 h5.2
    omega
  · rintro ⟨rfl, rfl⟩
    rw [Nat.xor_self]
    rfl
end Go.Proofs.YtjelacblnjbfgaaGreatDoor.Bit
namespace Go.Proofs.YtjelacblnjbfgaaGreatDoor.Ct
open Go.RowKit Go.Proofs.YtjelacblnjbfgaaGreatDoor.Bit
theorem ret_int {k : IntKind} {a b : Int} (h : a = b) : Ending.returned (.int k a) = .returned (.int k b) := by rw [h]
theorem same_any (x y : Int) (hx : 0 ≤ x) (hx' : x < 18446744073709551616) (hy : 0 ≤ y) (hy' : y < 18446744073709551616) (w : World) :
    Calls Tryz.prog 70 #[.int .u64 x, .int .u64 y] w fun e w' => e = .returned (.int .u64 (alike x y)) ∧ w = w' := by
  go_enter Tryz.func70, Tryz.ntmps70
  go_wp2_with fail
  go_ret
  exact ⟨ret_int (same_eq x y hx hx' hy hy'), rfl⟩
theorem pick_any (c x y : Int) (hc : 0 ≤ c) (hc' : c < 18446744073709551616) (hx : 0 ≤ x) (hx' : x < 18446744073709551616) (hy : 0 ≤ y) (hy' : y < 18446744073709551616) (w : World) :
    Calls Tryz.prog 74 #[.int .u64 c, .int .u64 x, .int .u64 y] w fun e w' => e = .returned (.int .u64 (pickI c x y)) ∧ w = w' := by
  go_enter Tryz.func74, Tryz.ntmps74
  go_wp2_with fail
  go_ret
  exact ⟨ret_int (pick_eq c x y hc hc' hx hx' hy hy'), rfl⟩
def oneI (b : Bool) : Int := if b = true then 1 else 0
theorem oneI_alike (x y : Int) : oneI (x == y) = alike x y := by unfold oneI alike; simp
end Go.Proofs.YtjelacblnjbfgaaGreatDoor.Ct
namespace Go.Proofs.YtjelacblnjbfgaaGreatDoor.Ky
open Go.Proofs.YtjelacblnjbfgaaGreatDoor.Sum Po
def decN (n : Nat) : List Int := if n < 10 then [48 + (n : Int)] else decN (n / 10) ++ [48 + ((n % 10 : Nat) : Int)]
termination_by n
decreasing_by omega
def decI (v : Int) : List Int := if v < 0 then 45 :: decN (-v).toNat else decN v.toNat
def name (ph r a : Int) (t : Nat) (i : Int) : List Int := [112] ++ decI ph ++ [46, 114] ++ decI r ++ [46, 97] ++ decI a ++ [46, 116] ++ decN t ++ [46, 105] ++ decI i
def eights (vs : List Int) : List Int := vs.flatMap fun v => digits v 8
theorem eights_length : ∀ vs : List Int, (eights vs).length = 8 * vs.length
  | [] => rfl
  | v :: vs => by
    have := eights_length vs
    simp only [eights, List.flatMap_cons, List.length_append, digits_length, List.length_cons] at this ⊢
    omega
theorem eights_bytes (vs : List Int) : Bs (eights vs) := fun z hz => by
  obtain ⟨v, _, h⟩ := List.mem_flatMap.1 hz
  exact digits_bytes 8 v z h
def nonce (a i : Int) : List Int := digits a 8 ++ digits i 4
theorem nonce_length (a i : Int) : (nonce a i).length = 12 := by simp [nonce, digits_length]
theorem nonce_bytes (a i : Int) : Bs (nonce a i) := fun z hz => by
  rcases List.mem_append.1 hz with h | h
  · exact digits_bytes _ _ z h
  · exact digits_bytes _ _ z h
end Go.Proofs.YtjelacblnjbfgaaGreatDoor.Ky
namespace Go.Proofs.YtjelacblnjbfgaaGreatDoor.Rc
open Go.RowKit Go.Shelf Go.Proofs.YtjelacblnjbfgaaGreatDoor Mem Help Go.Proofs.YtjelacblnjbfgaaGreatDoor.Sum Po Ct Go.Proofs.YtjelacblnjbfgaaGreatDoor.Bit Held
attribute [local irreducible] wpList wpListIn Calls
def u64 (x : Int) : Int := x % 18446744073709551616
theorem u64_eq (x : Int) : IntKind.u64.wrap x = u64 x := by rw [IntKind.wrap_u64]; rfl
theorem u64_wf (x : Int) : (Lit.int .u64 (u64 x)).wf = true := wf_64 (by unfold u64; omega)
theorem i64_u64 {x : Int} (hx : (Lit.int .i64 x).wf = true) : IntKind.i64.wrap (u64 x) = x := by
  have := wf_i64 hx
  rw [IntKind.wrap_i64]
  unfold u64
  omega
theorem one_wf (b : Bool) : (Lit.int .u64 (oneI b)).wf = true := by cases b <;> rfl
theorem or_one (a b : Bool) : bits .or .u64 (oneI a) (oneI b) = oneI (a || b) := by cases a <;> cases b <;> decide
theorem and_one_ (a b : Bool) : bits .and .u64 (oneI a) (oneI b) = oneI (a && b) := by cases a <;> cases b <;> decide
theorem alike_eq (x y : Int) : alike x y = oneI (decide (x = y)) := by
  rw [← oneI_alike]
  congr 1
theorem same_b (x y : Int) (hx : (Lit.int .u64 x).wf = true) (hy : (Lit.int .u64 y).wf = true) (w : World) :
    Calls Tryz.prog 70 #[.int .u64 x, .int .u64 y] w fun e w' => e = .returned (.int .u64 (oneI (decide (x = y)))) ∧ Below w.heap.size w w' := by
  have h1 := wf_u64 hx
  have h2 := wf_u64 hy
  rw [← alike_eq]
  exact (Ct.same_any x y h1.1 (by omega) h2.1 (by omega) w).mono fun _ _ ⟨h, e⟩ => ⟨h, e ▸ Below.refl _ _⟩
theorem one_b (b : Bool) (w : World) : Calls Tryz.prog 53 #[.bool b] w fun e w' => e = .returned (.int .u64 (oneI b)) ∧ Below w.heap.size w w' := by
  cases b
  all_goals
    go_enter Tryz.func53, Tryz.ntmps53
    go_wp2
    go_ret
    exact ⟨rfl, Below.refl _ _⟩
end Go.Proofs.YtjelacblnjbfgaaGreatDoor.Rc
namespace Go.Proofs.YtjelacblnjbfgaaGreatDoor.Rc
open Go.RowKit Go.ChangeShapes Go.WideShapes Mem
theorem rec_fields : ∃ f0 f1 f2 f3 : Field, Tryz.prog.underlying 37 = some (.struct #[f0, f1, f2, f3]) ∧ (f0.offset = 0 ∧ f0.type = 4) ∧ (f1.offset = 1 ∧ f1.type = 2) ∧ (f2.offset = 2 ∧ f2.type = 2) ∧ (f3.offset = 3 ∧ f3.type = 2) :=
  ⟨_, _, _, _, Tryz.underlying37, ⟨rfl, rfl⟩, ⟨rfl, rfl⟩, ⟨rfl, rfl⟩, ⟨rfl, rfl⟩⟩
section
variable {H : Type} {enc : TypeId × Value → H} {w : World} {base : Nat} {spare : Nat → Bool} {held : Bool}
theorem field_int {cs : List Value} {j n : Nat} {t : TypeId} {k : IntKind} {x : Option (DataW H × List MemPlace)} (hj : j < cs.length) (ht : Tryz.prog.underlying t = some (.int k)) (h : DataW.trod enc Tryz.prog w base spare held n t ((cs.drop j).take 1) = x) (hx : x.isSome = true) : ∃ z, cs[j]? = some (.int k z) ∧ (Lit.int k z).wf = true := by
  obtain ⟨y, rfl⟩ := Option.isSome_iff_exists.1 hx
  obtain ⟨z, h2, _, h3⟩ := DataW.trod_int ht h
  rw [List.drop_eq_getElem_cons hj] at h2
  simp only [List.take_succ_cons, List.take_zero] at h2
  exact ⟨z, by rw [List.getElem?_eq_getElem hj, (List.cons.inj h2).1], h3⟩
theorem field_bool {cs : List Value} {j n : Nat} {t : TypeId} {x : Option (DataW H × List MemPlace)} (hj : j < cs.length) (ht : Tryz.prog.underlying t = some .bool) (h : DataW.trod enc Tryz.prog w base spare held n t ((cs.drop j).take 1) = x) (hx : x.isSome = true) : ∃ b, cs[j]? = some (.bool b) := by
  obtain ⟨y, rfl⟩ := Option.isSome_iff_exists.1 hx
  obtain ⟨z, h2, _⟩ := DataW.trod_bool ht h
  rw [List.drop_eq_getElem_cons hj] at h2
  simp only [List.take_succ_cons, List.take_zero] at h2
  exact ⟨z, by rw [List.getElem?_eq_getElem hj, (List.cons.inj h2).1]⟩
end
theorem key_rec (w : World) (d : Bool) (k v s : Int) (d' : Bool) (k' v' s' : Int) :
    (Op.equalIn 10000 37 (.agg #[.bool d, .int .i64 k, .int .i64 v, .int .i64 s]) (.agg #[.bool d', .int .i64 k', .int .i64 v', .int .i64 s'])).run Tryz.prog w = .ok (decide (d = d' ∧ k = k' ∧ v = v' ∧ s = s')) w := by
  have hu : Tryz.prog.underlying 37 = some (.struct (Tryz.prog.fieldsOf 37)) := by kernel_rfl
  have hp : Tryz.prog.stoodInHeld 37 = false := by kernel_rfl
  have ei : ∀ (d : Nat) (k : IntKind) (x y : Int), (Op.equalIn (d + 1) 2 (.int k x) (.int k y)).run Tryz.prog w = .ok (x == y) w := fun d k x y => run_equalIn_int w d 2 k .i64 x y Tryz.underlying2
  have eb : ∀ (d : Nat) (x y : Bool), (Op.equalIn (d + 1) 4 (.bool x) (.bool y)).run Tryz.prog w = .ok (x == y) w := fun d x y => by
    simp [Op.equalIn, run_underlying Tryz.underlying4]
  rw [show (10000 : Nat) = 9998 + 1 + 1 from rfl, run_equalIn_agg w (9998 + 1) _ _ _ hu hp]
  simp only [Program.fieldsOf, Tryz.underlying37, Op.eqFields, Go.part, isAgg, Sem.run_bind, run_underlying Tryz.underlying2, run_underlying Tryz.underlying4, Result.andThen_ok, Sem.run_pure, Sem.run_ite]
  simp [ei, eb]
  by_cases h0 : d = d' <;> by_cases h1 : k = k' <;> by_cases h2 : v = v' <;> by_cases h3 : s = s' <;> simp [h0, h1, h2, h3]
theorem eql_rec (w : World) (d : Bool) (k v s : Int) (d' : Bool) (k' v' s' : Int) :
    (binOp .eql 37 (.agg #[.bool d, .int .i64 k, .int .i64 v, .int .i64 s]) (.agg #[.bool d', .int .i64 k', .int .i64 v', .int .i64 s'])).run Tryz.prog w = .ok (.bool (decide (d = d' ∧ k = k' ∧ v = v' ∧ s = s'))) w := by
  rw [run_eql_struct, key_rec]
  rfl
theorem neq_rec (w : World) (d : Bool) (k v s : Int) (d' : Bool) (k' v' s' : Int) :
    (binOp .neq 37 (.agg #[.bool d, .int .i64 k, .int .i64 v, .int .i64 s]) (.agg #[.bool d', .int .i64 k', .int .i64 v', .int .i64 s'])).run Tryz.prog w = .ok (.bool (!decide (d = d' ∧ k = k' ∧ v = v' ∧ s = s'))) w := by
  rw [run_neq_struct, key_rec]
  rfl
section
variable {S : World → Prop} {ρ : Operand → Value} {o : Oper}
theorem y_eqr {ty : TypeId} {x y : Operand} {d : Bool} {k v s : Int} {d' : Bool} {k' v' s' : Int} {r : Bool} (ho : o.op = .binOp .eql 37 x y ty) (hx : ρ x = .agg #[.bool d, .int .i64 k, .int .i64 v, .int .i64 s]) (hy : ρ y = .agg #[.bool d', .int .i64 k', .int .i64 v', .int .i64 s'])
    (hr : decide (d = d' ∧ k = k' ∧ v = v' ∧ s = s') = r) : ∀ w, S w → (execOp ρ o).run Tryz.prog w = .ok (.value (.bool r)) w :=
  Held.y_bin ho hx hy (fun w => by simp [eqGuard, show Tryz.prog.eqGuardType Tryz.prog.depth 37 = false by kernel_rfl]) (fun w => by rw [← hr]; exact eql_rec w d k v s d' k' v' s')
theorem y_ner {ty : TypeId} {x y : Operand} {d : Bool} {k v s : Int} {d' : Bool} {k' v' s' : Int} {r : Bool} (ho : o.op = .binOp .neq 37 x y ty) (hx : ρ x = .agg #[.bool d, .int .i64 k, .int .i64 v, .int .i64 s]) (hy : ρ y = .agg #[.bool d', .int .i64 k', .int .i64 v', .int .i64 s'])
    (hr : (!decide (d = d' ∧ k = k' ∧ v = v' ∧ s = s')) = r) : ∀ w, S w → (execOp ρ o).run Tryz.prog w = .ok (.value (.bool r)) w :=
  Held.y_bin ho hx hy (fun w => by simp [eqGuard, show Tryz.prog.eqGuardType Tryz.prog.depth 37 = false by kernel_rfl]) (fun w => by rw [← hr]; exact neq_rec w d k v s d' k' v' s')
end
end Go.Proofs.YtjelacblnjbfgaaGreatDoor.Rc
