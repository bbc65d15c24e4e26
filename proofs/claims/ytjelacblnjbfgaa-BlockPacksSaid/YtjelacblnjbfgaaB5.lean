/-
  Plain facts about the bits of unsigned numbers: no program here. Conditions: the numbers fit 64 bits.
  The functions of package ct, each by its contract: what it returns for any numbers. Conditions: the numbers fit their kinds.
  Texts within a drawn region, and small lists of numbers as rows of their own: no program here. No conditions beyond those stated.
  The functions of package dominohelp on bytes, each by its contract. Conditions: the slices read as lists of bytes, of at most 2^44 bytes.
  More operations of a drawn region, one by one: make, append with new room, texts that are not alike; dominohelp.Bytes of like texts. No conditions beyond those stated.
  Names, and numbers as bytes, of package keys, as plain functions: no program here. No conditions beyond those stated.
  What a record is to the program, as plain functions; package record's one, leads, Before, Ahead, Dead, and the document's own, by their contracts. Conditions: the numbers fit their kinds.
  What the frame of a proof says of a record that came in by value; two records, two arrays of numbers held against each other. No conditions beyond those stated.
-/
import Derived.WalkKit
import Derived.Test.YtjelacblnjbfgaaRows
import Derived.ProofKit
import Derived.OpenShut
import Derived.Lib.Hide
import Derived.Test.YtjelacblnjbfgaaB3
import Derived.Test.YtjelacblnjbfgaaB1
import Derived.Deep.OwnRows
import Derived.Test.YtjelacblnjbfgaaB4
import Derived.WideShapes
import Derived.ChangeArms
import Derived.Laws.StructEq
namespace Go.Proofs.Ytjelacblnjbfgaa.Bit
open Go.RowKit

/-- 1 if the first is below the second, else 0 -/
def low (x y : Int) : Int := if x < y then 1 else 0
/-- 1 if both are one number, else 0 -/
def alike (x y : Int) : Int := if x = y then 1 else 0
/-- the first, if c is odd, else the second -/
def pickI (c x y : Int) : Int := if c % 2 = 1 then x else y

theorem low_range (x y : Int) : 0 ≤ low x y ∧ low x y ≤ 1 := by unfold low; split <;> omega
theorem alike_range (x y : Int) : 0 ≤ alike x y ∧ alike x y ≤ 1 := by unfold alike; split <;> omega

theorem xor_u64_range (x y : Int) (hx : 0 ≤ x) (hx' : x < 18446744073709551616) (hy : 0 ≤ y) (hy' : y < 18446744073709551616) :
    0 ≤ bits .xor .u64 x y ∧ bits .xor .u64 x y < 18446744073709551616 := by
  rw [u64_xor x y hx hx' hy hy']
  have h : x.toNat ^^^ y.toNat < 2 ^ 64 := Nat.xor_lt_two_pow (by omega) (by omega)
  omega

theorem xor_top (n : Int) (h : 0 ≤ n) (h' : n < 18446744073709551616) : bits .xor .u64 n 9223372036854775808 = (n + 9223372036854775808) % 18446744073709551616 := by
  rw [u64_xor n _ h h' (by omega) (by omega)]
  obtain ⟨m, rfl⟩ := Int.eq_ofNat_of_zero_le h
  have e : (m ^^^ 9223372036854775808) = (m + 9223372036854775808) % 18446744073709551616 := by
    have t := Nat.xor_mod_two_pow (a := m) (b := 9223372036854775808) (n := 63)
    have q := Nat.xor_div_two_pow (a := m) (b := 9223372036854775808) (n := 63)
    simp only [show (2 : Nat) ^ 63 = 9223372036854775808 from rfl] at t q
    have z : m / 9223372036854775808 = 0 ∨ m / 9223372036854775808 = 1 := by omega
    rcases z with z | z <;> rw [z] at q <;> simp at q t <;> omega
  simp only [Int.toNat_natCast]
  have h9 : (9223372036854775808 : Int).toNat = 9223372036854775808 := rfl
  rw [h9, e]
  omega

theorem below_eq (x y : Int) (hx : -9223372036854775808 ≤ x) (hx' : x ≤ 9223372036854775807) (hy : -9223372036854775808 ≤ y) (hy' : y ≤ 9223372036854775807) :
    low (bits .xor .u64 (IntKind.u64.wrap x) 9223372036854775808) (bits .xor .u64 (IntKind.u64.wrap y) 9223372036854775808) = low x y := by
  rw [IntKind.wrap_u64, IntKind.wrap_u64, xor_top _ (by omega) (by omega), xor_top _ (by omega) (by omega)]
  unfold low
  split <;> split <;> omega

theorem or_neg (d : Nat) (h : 0 < d) (h' : d < 18446744073709551616) : (d ||| (18446744073709551616 - d)) / 9223372036854775808 = 1 := by
  have a : d ≤ d ||| (18446744073709551616 - d) := Nat.left_le_or
  have b : 18446744073709551616 - d ≤ d ||| (18446744073709551616 - d) := Nat.right_le_or
  have c : d ||| (18446744073709551616 - d) < 2 ^ 64 := Nat.or_lt_two_pow (by omega) (by omega)
  omega

/-- none of a number's bits: how Same tells a zero -/
theorem zero_flag (d : Int) (h : 0 ≤ d) (h' : d < 18446744073709551616) :
    bits .xor .u64 1 (bits .or .u64 d (IntKind.u64.wrap (-d)) / 9223372036854775808) = alike d 0 := by
  rw [IntKind.wrap_u64]
  by_cases z : d = 0
  · subst z; rfl
  · have e : -d % 18446744073709551616 = 18446744073709551616 - d := by omega
    rw [e, u64_or d _ h h' (by omega) (by omega)]
    have f : (18446744073709551616 - d).toNat = 18446744073709551616 - d.toNat := by omega
    have g := or_neg d.toNat (by omega) (by omega)
    rw [f]
    have k : ((d.toNat ||| (18446744073709551616 - d.toNat) : Nat) : Int) / 9223372036854775808 = 1 := by omega
    rw [k]
    unfold alike
    rw [if_neg z]
    rfl

theorem xor_zero (x y : Int) (hx : 0 ≤ x) (hx' : x < 18446744073709551616) (hy : 0 ≤ y) (hy' : y < 18446744073709551616) : alike (bits .xor .u64 x y) 0 = alike x y := by
  rw [u64_xor x y hx hx' hy hy']
  obtain ⟨a, rfl⟩ := Int.eq_ofNat_of_zero_le hx
  obtain ⟨b, rfl⟩ := Int.eq_ofNat_of_zero_le hy
  simp only [Int.toNat_natCast]
  unfold alike
  by_cases e : a = b
  · subst e; simp
  · have n : a ^^^ b ≠ 0 := fun h => e (by rw [← Nat.xor_zero a, ← Nat.xor_self b, ← Nat.xor_assoc, h, Nat.zero_xor])
    rw [if_neg (by omega), if_neg (by omega)]

theorem same_eq (x y : Int) (hx : 0 ≤ x) (hx' : x < 18446744073709551616) (hy : 0 ≤ y) (hy' : y < 18446744073709551616) :
    bits .xor .u64 1 (bits .or .u64 (bits .xor .u64 x y) (IntKind.u64.wrap (-bits .xor .u64 x y)) / 9223372036854775808) = alike x y := by
  have r := xor_u64_range x y hx hx' hy hy'
  rw [zero_flag _ r.1 r.2, xor_zero x y hx hx' hy hy']

theorem and_one (c : Int) (h : 0 ≤ c) (h' : c < 18446744073709551616) : bits .and .u64 c 1 = c % 2 := by
  rw [u64_and c 1 h h' (by omega) (by omega)]
  have : (1 : Int).toNat = 1 := rfl
  rw [this, Nat.and_one_is_mod]
  omega

theorem pick_eq (c x y : Int) (hc : 0 ≤ c) (hc' : c < 18446744073709551616) (hx : 0 ≤ x) (hx' : x < 18446744073709551616) (hy : 0 ≤ y) (hy' : y < 18446744073709551616) :
    bits .xor .u64 y (bits .and .u64 (IntKind.u64.wrap (-bits .and .u64 c 1)) (bits .xor .u64 x y)) = pickI c x y := by
  have r := xor_u64_range x y hx hx' hy hy'
  rw [and_one c hc hc', IntKind.wrap_u64]
  unfold pickI
  by_cases o : c % 2 = 1
  · rw [if_pos o, o]
    have e : (-1 : Int) % 18446744073709551616 = 18446744073709551615 := rfl
    rw [e, u64_and _ _ (by omega) (by omega) r.1 r.2, u64_xor x y hx hx' hy hy']
    have f : (18446744073709551615 : Int).toNat = 18446744073709551615 := rfl
    have g : x.toNat ^^^ y.toNat < 2 ^ 64 := Nat.xor_lt_two_pow (by omega) (by omega)
    rw [f, Int.toNat_natCast, Nat.and_comm, show (18446744073709551615 : Nat) = 2 ^ 64 - 1 from rfl, Nat.and_two_pow_sub_one_eq_mod, Nat.mod_eq_of_lt g, u64_xor y _ hy hy' (by omega) (by omega), Int.toNat_natCast]
    rw [Nat.xor_comm x.toNat, ← Nat.xor_assoc, Nat.xor_self, Nat.zero_xor]
    omega
  · have z : c % 2 = 0 := by omega
    rw [if_neg o, z]
    have e : (-0 : Int) % 18446744073709551616 = 0 := rfl
    have f : (0 : Int).toNat = 0 := rfl
    rw [e, u64_and _ _ (by omega) (by omega) r.1 r.2, f, Nat.zero_and, u64_xor y _ hy hy' (by omega) (by omega)]
    simp
    omega

theorem pick_range (c x y : Int) (hx : 0 ≤ x) (hx' : x < 18446744073709551616) (hy : 0 ≤ y) (hy' : y < 18446744073709551616) : 0 ≤ pickI c x y ∧ pickI c x y < 18446744073709551616 := by
  unfold pickI; split <;> omega

theorem nat_xor_zero {a b : Nat} : a ^^^ b = 0 ↔ a = b :=
  ⟨fun h => by rw [← Nat.xor_zero a, ← Nat.xor_self b, ← Nat.xor_assoc, h, Nat.zero_xor], fun h => by rw [h]; exact Nat.xor_self b⟩
theorem nat_or_zero {a b : Nat} : a ||| b = 0 ↔ a = 0 ∧ b = 0 := by
  constructor
  · intro h
    have h1 : a ≤ a ||| b := Nat.left_le_or
    have h2 : b ≤ a ||| b := Nat.right_le_or
    omega
  · rintro ⟨rfl, rfl⟩; rfl

/-- what is gathered of the differences of two bytes -/
theorem gather_u8 (d x y : Int) (hd : 0 ≤ d ∧ d ≤ 255) (hx : 0 ≤ x ∧ x ≤ 255) (hy : 0 ≤ y ∧ y ≤ 255) :
    0 ≤ bits .or .u8 d (bits .xor .u8 x y) ∧ bits .or .u8 d (bits .xor .u8 x y) ≤ 255 ∧ (bits .or .u8 d (bits .xor .u8 x y) = 0 ↔ d = 0 ∧ x = y) := by
  rw [u8_xor x y (by omega) (by omega) (by omega) (by omega)]
  have h1 : x.toNat ^^^ y.toNat < 2 ^ 8 := Nat.xor_lt_two_pow (by omega) (by omega)
  rw [u8_or d _ (by omega) (by omega) (by omega) (by omega), Int.toNat_natCast]
  have h2 : d.toNat ||| (x.toNat ^^^ y.toNat) < 2 ^ 8 := Nat.or_lt_two_pow (by omega) h1
  refine ⟨by omega, by omega, ?_⟩
  have h3 := nat_or_zero (a := d.toNat) (b := x.toNat ^^^ y.toNat)
  have h4 := nat_xor_zero (a := x.toNat) (b := y.toNat)
  constructor
  · intro h
    have h5 := h3.1 (by omega)
    have h6 := h4.1 h5.2
    omega
  · rintro ⟨rfl, rfl⟩
    rw [Nat.xor_self]
    rfl
end Go.Proofs.Ytjelacblnjbfgaa.Bit
namespace Go.Proofs.Ytjelacblnjbfgaa.Ct
open Go.RowKit Go.Proofs.Ytjelacblnjbfgaa.Bit

theorem ret_int {k : IntKind} {a b : Int} (h : a = b) : Ending.returned (.int k a) = .returned (.int k b) := by rw [h]

theorem same_any (x y : Int) (hx : 0 ≤ x) (hx' : x < 18446744073709551616) (hy : 0 ≤ y) (hy' : y < 18446744073709551616) (w : World) :
    Calls Try.prog 49 #[.int .u64 x, .int .u64 y] w fun e w' => e = .returned (.int .u64 (alike x y)) ∧ w = w' := by
  go_enter Try.func49, Try.ntmps49
  go_wp2_with fail
  go_ret
  exact ⟨ret_int (same_eq x y hx hx' hy hy'), rfl⟩

theorem pick_any (c x y : Int) (hc : 0 ≤ c) (hc' : c < 18446744073709551616) (hx : 0 ≤ x) (hx' : x < 18446744073709551616) (hy : 0 ≤ y) (hy' : y < 18446744073709551616) (w : World) :
    Calls Try.prog 43 #[.int .u64 c, .int .u64 x, .int .u64 y] w fun e w' => e = .returned (.int .u64 (pickI c x y)) ∧ w = w' := by
  go_enter Try.func43, Try.ntmps43
  go_wp2_with fail
  go_ret
  exact ⟨ret_int (pick_eq c x y hc hc' hx hx' hy hy'), rfl⟩

/-- the number that tells a truth -/
def oneI (b : Bool) : Int := if b = true then 1 else 0
theorem oneI_low (x y : Int) : oneI (decide (x < y)) = low x y := by unfold oneI low; simp
theorem oneI_alike (x y : Int) : oneI (x == y) = alike x y := by unfold oneI alike; simp

end Go.Proofs.Ytjelacblnjbfgaa.Ct
namespace Go.Proofs.Ytjelacblnjbfgaa.Held
open Go.RowKit Go.Proofs.Ytjelacblnjbfgaa.Mem
set_option linter.unusedVariables false

section
variable {P : Program} {S : World → Prop} {ρ : Operand → Value} {o : Oper}
theorem y_text {src dst e : TypeId} {x : Operand} {B : Nat} {A : Option Addr} {n c : Nat} {zs : List Int} (ho : o.op = .convert src dst x) (hx : ρ x = .slice A n c) (hs : P.underlying src = some (.slice e)) (he : P.underlying e = some (.int .u8)) (hd : P.underlying dst = some .string)
    (hi : ∀ w, S w → Ints w .u8 B A n zs) : ∀ w, S w → (execOp ρ o).run P w = .ok (.value (.string (strOfNums zs))) w := fun w hw => by
  simp [execOp, ho, hx, run_text w src dst e hs he hd B A n c zs (hi w hw)]
theorem y_eqs {t ty : TypeId} {x y : Operand} {s : ByteArray} (ho : o.op = .binOp .eql t x y ty) (hx : ρ x = .string s) (hy : ρ y = .string s) (ht : P.underlying t = some .string) :
    ∀ w, S w → (execOp ρ o).run P w = .ok (.value (.bool true)) w := y_bin ho hx hy (fun w => by simp [eqGuard]) (fun w => by simp [binOp, Op.stringOp])
theorem y_len_ {t : TypeId} {x : Operand} {A : Option Addr} {n c : Nat} {r : Int} (ho : o.op = .call { callee := .builtin .len, args := #[x], argTypes := #[t] }) (hx : ρ x = .slice A n c) (ht : P.underlying t = some (.slice (P.elem t))) (hr : (n : Int) = r) :
    ∀ w, S w → (execOp ρ o).run P w = .ok (.value (.int .i64 r)) w := by subst hr; exact y_len ho hx ht
theorem y_eqi {t ty : TypeId} {x y : Operand} {k : IntKind} {a : Int} (ho : o.op = .binOp .eql t x y ty) (hx : ρ x = .int k a) (hy : ρ y = .int k a) :
    ∀ w, S w → (execOp ρ o).run P w = .ok (.value (.bool true)) w := y_bin ho hx hy (fun w => by simp [eqGuard]) (fun w => by simp [binOp, Op.intCmp])
theorem y_eqn {t ty : TypeId} {x y : Operand} {k : IntKind} {a b : Int} (ho : o.op = .binOp .eql t x y ty) (hx : ρ x = .int k a) (hy : ρ y = .int k b) (hab : a ≠ b) :
    ∀ w, S w → (execOp ρ o).run P w = .ok (.value (.bool false)) w := y_bin ho hx hy (fun w => by simp [eqGuard]) (fun w => by simp [binOp, Op.intCmp, hab])
/-- two arrays of the same numbers, said apart -/
theorem y_eql2 {t e ty : TypeId} {x y : Operand} {k : IntKind} {zs ys : List Int} {n : Nat} (ho : o.op = .binOp .eql t x y ty) (hx : ρ x = .agg (arr k zs)) (hy : ρ y = .agg (arr k ys)) (he' : zs = ys) (hq : P.eqGuardType P.depth t = false) (ht : P.underlying t = some (.array n e)) (he : P.underlying e = some (.int k)) (hs : (P.info? e).map (·.size) = some 1) (hn : zs.length = n) :
    ∀ w, S w → (execOp ρ o).run P w = .ok (.value (.bool true)) w := by subst he'; exact y_eql ho hx hy hq ht he hs hn
end

section
variable {P : Program} {S : World → Prop} {ρ : Operand → Value} {o : Oper}
theorem y_pickF {c x y : Operand} {v : Value} (ho : o.op = .pick c x y) (hc : ρ c = .bool false) (hv : ρ y = v) : ∀ w, S w → (execOp ρ o).run P w = .ok (.value v) w := fun w _ => by simp [execOp, ho, hv, hc, asBool]
theorem y_not {x : Operand} {b r : Bool} {t : TypeId} (ho : o.op = .unOp .not t x) (hx : ρ x = .bool b) (hr : (!b) = r) : ∀ w, S w → (execOp ρ o).run P w = .ok (.value (.bool r)) w := fun w _ => by subst hr; simp [execOp, ho, hx, Op.unary]
theorem y_eqb {t ty : TypeId} {x y : Operand} {a b r : Bool} (ho : o.op = .binOp .eql t x y ty) (hx : ρ x = .bool a) (hy : ρ y = .bool b) (hr : (a == b) = r) (ht : P.underlying t = some .bool) :
    ∀ w, S w → (execOp ρ o).run P w = .ok (.value (.bool r)) w := y_bin ho hx hy (fun w => by simp [eqGuard]) (fun w => by subst hr; simp [binOp, run_equal_bool _ t a b ht])
end
section
variable {P : Program} {ops : Array Oper} {Q : Exit → Act → World → Prop} {md : Region.Mode} {S : World → Prop}
/-- what a guard shuts out is passed over -/
theorem skip (i : Nat) (d : Option Tmp) {oi : Oper} {fuel : Nat} {listed : Array Bool} {a : Act} {w : World} (hi : ops[i]? = some oi) (hd : oi.dst = d)
    (hs : Region.noSelect ops = true) (hf : Region.free md ops listed i = true) (hr : (Region.ready md ops listed).contains i = true)
    (hQ : ∀ c a w, Q (.panic c) (a.put d undef) w → Q (.panic c) a w) (hw : Region.wanted oi (yielded ops a.tmps) = false) (hS : S w)
    (h : wpAnyH P md ops Q S fuel (listed.setIfInBounds i true) (a.put d undef) w) : wpAnyH P md ops Q S (fuel + 1) listed a w := by
  subst hd
  exact wpAnyH_take hi hs hf hr hQ (.inr ⟨hw, rfl⟩) hS h
end

/-- a new list of numbers, as a row of its own, the new world a letter -/
theorem wpList_build_row {P : Program} {ops : Array Oper} {rest : List Oper} {o : Oper} {a : Act} {w : World} {Q : Exit → Act → World → Prop} (hgd : o.guard = none) (t e : TypeId) (len : Nat) (parts : Array (Nat × Operand)) (ho : o.op = .buildSlice t len parts) (k : IntKind) (bytes : Nat) (zs : List Int)
    (hu : P.underlying t = some (.slice e)) (hinfo : (P.info? e).map (fun i => (i.zero, i.size, i.bytes)) = some (some (.int k 0), 1, bytes)) (hp : (parts.map fun (i, x) => (i, a.eval x)).toList = ((zs.map (Value.int k)).zipIdx 0).map fun x => (x.2, x.1))
    (hl : zs.length = len) (h0 : 0 < len) (hlen : len ≤ 1000) (hwf : ∀ z ∈ zs, (Lit.int k z).wf = true)
    (h : ∀ w', Row w' w.heap.size e k zs → w.grownBy w' none → Hid (w'.heap.size = w.heap.size + 1) → wpList P ops Q rest (a.put o.dst (.slice (some ⟨w.heap.size, 0, none⟩) len len)) w') : wpList P ops Q (o :: rest) a w := by
  refine wpList_plain hgd fun K hK => ?_
  obtain ⟨ie, hie, hz, hsz, _⟩ := info_parts hinfo
  have hl' : (zs.map (Value.int k)).length = len := by simpa using hl
  have h' := hK _ _ (h _ (Row.new w e hwf) (World.grownBy_alloc w _ none) (Lib.hid (by simp)))
  unfold arr at h'
  have h1 : ∀ v ∈ zs.map (Value.int k), v.cells = #[v] := by intro v hv; obtain ⟨z, _, rfl⟩ := List.mem_map.1 hv; rfl
  generalize zs.map (Value.int k) = vs at hp hl' h' h1
  subst hl'
  refine Go.wp_buildSlice t e vs.length parts ho vs.toArray ie (.int k 0) hu hie hz (by rw [hsz]; omega) (by rw [hsz]; omega) ?_ h'
  rw [hp]
  simp only [hsz]
  exact Go.Great.fill_flat vs _ h1 (by simp)
end Go.Proofs.Ytjelacblnjbfgaa.Held
namespace Go.Proofs.Ytjelacblnjbfgaa.Help
open Go.RowKit Go.Proofs.Ytjelacblnjbfgaa.Mem
set_option linter.unusedVariables false

theorem info_u8 : (Try.prog.info? 5).map (fun i => (i.zero, i.size, i.bytes)) = some (some (.int .u8 0), 1, 1) := by kernel_rfl

/-- nothing has turned, but for a count of draws -/
def Still (w w' : World) : Prop := ∃ m, w' = w.drewN m
section
variable {w w' w'' : World}
theorem Still.refl (w : World) : Still w w := ⟨0, rfl⟩
theorem Still.drewN (h : Still w w') (n : Nat) : Still w (w'.drewN n) := by obtain ⟨m, rfl⟩ := h; exact ⟨m + n, by simp⟩
theorem Still.trans (h : Still w w') (k : Still w' w'') : Still w w'' := by obtain ⟨m, rfl⟩ := h; obtain ⟨n, rfl⟩ := k; exact ⟨m + n, by simp⟩
theorem Still.below (h : Still w w') (B : Nat) : Below B w w' := by obtain ⟨m, rfl⟩ := h; exact below_drewN (Below.refl _ _) m
theorem Still.size (h : Still w w') : w'.heap.size = w.heap.size := by obtain ⟨m, rfl⟩ := h; rfl
theorem Still.cell (h : Still w w') (p : Addr) : w'.cell? p = w.cell? p := by obtain ⟨m, rfl⟩ := h; rfl
theorem Still.heap (h : Still w w') : w'.heap = w.heap := by obtain ⟨m, rfl⟩ := h; rfl
theorem Still.ints (h : Still w w') {k : IntKind} {B n : Nat} {A : Option Addr} {zs : List Int} (hi : Ints w k B A n zs) : Ints w' k B A n zs := hi.below (h.below B)
theorem Still.own (h : Still w w') {base : Nat} {t : TypeId} {k : IntKind} {v : Value} {zs : List Int} (hi : Mem.Own w base t k v zs) : Mem.Own w' base t k v zs := hi.below (h.below _)
end

theorem bytes_any (B B' : Nat) (A A' : Option Addr) (n n' c c' : Nat) (zs zs' : List Int) (w : World) (h : Ints w .u8 B A n zs) (h' : Ints w .u8 B' A' n' zs') :
    Calls Try.prog 12 #[.slice A n c, .slice A' n' c'] w fun e w' => e = .returned (.bool (decide (zs = zs'))) ∧ w = w' := by
  have t1 := run_text (P := Try.prog) w 23 9 5 Try.underlying23 Try.underlying5 Try.underlying9 B A n c zs h
  have t2 := run_text (P := Try.prog) w 23 9 5 Try.underlying23 Try.underlying5 Try.underlying9 B' A' n' c' zs' h'
  have X := Lib.hid (text_inj h.2.1 h'.2.1)
  clear h h'
  go_enter Try.func12, Try.ntmps12
  go_wp2
  go_ret
  exact ⟨ret_bool (by rw [Bool.eq_iff_iff]; simp only [beq_iff_eq, decide_eq_true_iff]; exact X.out), rfl⟩

theorem take_step {xs ys : List Int} {k : Nat} (hx : k < xs.length) (hy : k < ys.length) (h : xs.take k = ys.take k) (e : xs.getD k 0 = ys.getD k 0) : xs.take (k + 1) = ys.take (k + 1) := by
  rw [List.take_add_one, List.take_add_one, h]
  simp only [List.getD_eq_getElem?_getD, List.getElem?_eq_getElem hx, List.getElem?_eq_getElem hy, Option.getD_some] at e
  rw [List.getElem?_eq_getElem hx, List.getElem?_eq_getElem hy, e]

theorem eq_byte (x y : Int) (w : World) : Calls Try.prog 42 #[.int .u8 x, .int .u8 y] w fun e w' => e = .returned (.bool (x == y)) ∧ w = w' := by
  go_enter Try.func42, Try.ntmps42
  go_wp2
  go_ret
  exact ⟨rfl, rfl⟩

theorem same_any (B B' : Nat) (A A' : Option Addr) (n n' c c' : Nat) (zs zs' : List Int) (w : World) (h : Ints w .u8 B A n zs) (h' : Ints w .u8 B' A' n' zs') (hn : n ≤ 17592186044416) (hn' : n' ≤ 17592186044416) :
    Calls Try.prog 41 #[.slice A n c, .slice A' n' c', .func (Fn.func 42) #[] #[]] w fun e w' => e = .returned (.bool (decide (zs = zs'))) ∧ Still w w' := by
  by_cases hnn : n = n'
  · subst hnn
    have hne : ((n : Int) != (n : Int)) = false := by simp
    have HL := Lib.hid h.1
    have HL' := Lib.hid h'.1
    go_enter Try.func41, Try.ntmps41
    go_wp2_with fail
    go_loopw [7] (fun i wr => ∃ k : Nat, k ≤ n ∧ i = .int .i64 k ∧ Still w wr ∧ Hid (zs.take k = zs'.take k)) (fun i _ => n - (intOf i).toNat)
    case atStart => exact ⟨0, by omega, rfl, Still.refl _, Lib.hid rfl⟩
    case round =>
      obtain ⟨k, hk, rfl, hst, ht⟩ := hrel
      by_cases hlt : k < n
      · obtain ⟨b, off, rfl, hb, hc⟩ := (hst.ints h).at_ hlt
        obtain ⟨b', off', rfl, hb', hc'⟩ := (hst.ints h').at_ hlt
        have hlt' : (k : Int) < (n : Int) := by omega
        have hk0 : (0 : Int) ≤ (k : Int) := by omega
        by_cases hq : zs.getD k 0 = zs'.getD k 0
        · have HT := Lib.hid (take_step (by have := HL.out; omega) (by have := HL'.out; omega) ht.out hq)
          have q : (zs.getD k 0 == zs'.getD k 0) = true := by simpa using hq
          clear hq
          generalize zs.getD k 0 = x at hc q
          generalize zs'.getD k 0 = y at hc' q
          go_wp2_with fail
          go_quiet ((go_at_call 42; exact quiet_same (eq_byte _ _ _)))
          go_wp2_with fail
          go_roundw
          case rel => exact ⟨k + 1, by omega, by go_num, hst.drewN _, HT⟩
          case measure => simp [intOf]; omega
        · have HF := Lib.hid (show decide (zs = zs') = false by
            rw [decide_eq_false_iff_not]; intro e; exact hq (by rw [e]))
          have q : (zs.getD k 0 == zs'.getD k 0) = false := by simpa using hq
          clear hq
          generalize zs.getD k 0 = x at hc q
          generalize zs'.getD k 0 = y at hc' q
          go_wp2_with fail
          go_quiet ((go_at_call 42; exact quiet_same (eq_byte _ _ _)))
          go_wp2_with fail
          go_ret
          exact ⟨ret_bool HF.out.symm, hst.drewN _⟩
      · have HF := Lib.hid (show decide (zs = zs') = true by
          have e1 := ht.out
          rw [List.take_of_length_le (by have := HL.out; omega), List.take_of_length_le (by have := HL'.out; omega)] at e1
          simpa using e1)
        go_wp2_with fail
        go_ret
        exact ⟨ret_bool HF.out.symm, hst⟩
  · have hne : ((n : Int) != (n' : Int)) = true := by simp; omega
    have HF := Lib.hid (show decide (zs = zs') = false by
      rw [decide_eq_false_iff_not]; intro e; exact hnn (by rw [← h.1, ← h'.1, e]))
    clear h h' hnn
    go_enter Try.func41, Try.ntmps41
    go_wp2_with fail
    go_ret
    exact ⟨ret_bool HF.out.symm, Still.refl _⟩

theorem plain_any (B B' : Nat) (A A' : Option Addr) (n n' c c' : Nat) (zs zs' : List Int) (w : World) (h : Ints w .u8 B A n zs) (h' : Ints w .u8 B' A' n' zs') (hn : n ≤ 17592186044416) (hn' : n' ≤ 17592186044416) :
    Calls Try.prog 29 #[.slice A n c, .slice A' n' c'] w fun e w' => e = .returned (.bool (decide (zs = zs'))) ∧ Still w w' := by
  go_enter Try.func29, Try.ntmps29
  go_wp2_with fail
  refine (same_any B B' A A' n n' c c' zs zs' _ h h' hn hn').mono ?_
  rintro e w' ⟨rfl, hst⟩
  go_wp2_with fail
  go_ret
  exact ⟨rfl, hst⟩
end Go.Proofs.Ytjelacblnjbfgaa.Help
namespace Go.Proofs.Ytjelacblnjbfgaa.Held
open Go.RowKit Go.Proofs.Ytjelacblnjbfgaa.Mem
set_option linter.unusedVariables false

section
variable {P : Program} {ops : Array Oper} {Q : Exit → Act → World → Prop}
/-- make([]T, n), n said by a constant -/
theorem op_make_Row (i : Nat) (d : Option Tmp) {o : Oper} {a : Act} {w : World} {K : Act → World → Prop} (t e : TypeId) (k : IntKind) (bytes n : Nat) {l c : Operand} (kl kc : IntKind) (hi : ops[i]? = some o) (hd : o.dst = d) (hw : Region.wanted o (yielded ops a.tmps) = true)
    (ho : o.op = .makeSlice t l c) (hu : P.underlying t = some (.slice e)) (hinfo : (P.info? e).map (fun i => (i.zero, i.size, i.bytes)) = some (some (.int k 0), 1, bytes)) (hl : a.eval l = .int kl (n : Int)) (hc : a.eval c = .int kc (n : Int)) (hb : bytes * n ≤ 281474976710656) (hn : n ≤ 9223372036854775807)
    (h : ∀ g w', Row w' g e k (List.replicate n 0) → Below w.heap.size w w' → Hid (w.heap.size ≤ g) → K (a.put d (.slice (some ⟨g, 0, none⟩) n n)) w') : wpOp P ops Q i K a w := by
  subst hd
  refine op_wp i hi hw ?_
  have hrun := Go.run_make_row' (P := P) t e (.int k 0) bytes hu hinfo rfl kl kc n hb hn w
  unfold Oper.wp execOp
  simp only [ho, hl, hc, hrun, Sem.run_bind, Sem.run_pure, Result.andThen_ok]
  refine h _ _ ?_ ((Below.refl _ w).alloc (Nat.le_refl _) _) (Lib.hid (Nat.le_refl _))
  rw [made_zeros]
  exact Row.new w e (zeros_wf k n)
/-- append of numbers that read as a list, onto what the call owns -/
theorem op_append_ints (i : Nat) (d : Option Tmp) {o : Oper} {a : Act} {w : World} {K : Act → World → Prop} {s x : Operand} (ts : TypeId) (hi : ops[i]? = some o) (hd : o.dst = d) (hw : Region.wanted o (yielded ops a.tmps) = true)
    (ho : o.op = .call { callee := .builtin .append, args := #[s, x], argTypes := #[ts, ts] }) (base : Nat) (e : TypeId) (k : IntKind) (bytes : Nat) (ht : P.underlying ts = some (.slice e))
    (hinfo : (P.info? e).map (fun i => (i.zero, i.size, i.bytes)) = some (some (.int k 0), 1, bytes)) (v : Value) (zs : List Int) (hs : a.eval s = v) (hown : Mem.Own w base e k v zs)
    (B : Nat) (A : Option Addr) (m c : Nat) (xs : List Int) (hx : a.eval x = .slice A m c) (hr : Ints w k B A m xs) (hlen : zs.length + m ≤ 17592186044416) (hby : bytes ≤ 8) (hbase : base ≤ w.heap.size)
    (h : ∀ A' n' c' w', Mem.Own w' base e k (.slice A' n' c') (zs ++ xs) → w.grownBy w' v.ownBlock → n' ≤ c' → c' ≤ maxLen → Hid ((zs ++ xs).length = n') → Ints w' k w'.heap.size A' n' (zs ++ xs) → K (a.put d (.slice A' n' c')) w') : wpOp P ops Q i K a w := by
  subst hd
  refine op_wp i hi hw ?_
  obtain ⟨v', w', hrun, h2, h3, _⟩ := run_append_ints (P := P) w base ts o.type e k bytes ht hinfo v zs hown B A m c xs hr hlen hby hbase
  obtain ⟨A', c', rfl, h4, h5, h6⟩ := h2.form
  exact Lib.wp_append_run w s x ts ts ho _ _ hs hx _ w' hrun (h _ _ _ w' h2 h3 h4 h5 (Lib.hid rfl) h6)
end
section
variable {P : Program} {S : World → Prop} {ρ : Operand → Value} {o : Oper}
theorem y_nes {t ty : TypeId} {x y : Operand} {s : ByteArray} (ho : o.op = .binOp .neq t x y ty) (hx : ρ x = .string s) (hy : ρ y = .string s) :
    ∀ w, S w → (execOp ρ o).run P w = .ok (.value (.bool false)) w := y_bin ho hx hy (fun w => by simp [eqGuard]) (fun w => by simp [binOp, Op.stringOp])
end
/-- like texts are alike -/
theorem bytes_same (B B' : Nat) (A A' : Option Addr) (n n' c c' : Nat) (zs zs' : List Int) (w : World) (h : Ints w .u8 B A n zs) (h' : Ints w .u8 B' A' n' zs') (e : zs = zs') :
    Calls Try.prog 12 #[.slice A n c, .slice A' n' c'] w fun e w' => e = .returned (.bool true) ∧ Below w.heap.size w w' :=
  (Help.bytes_any B B' A A' n n' c c' zs zs' w h h').mono fun _ _ ⟨h1, h2⟩ => ⟨by rw [h1]; simp [e], h2 ▸ Below.refl _ _⟩
end Go.Proofs.Ytjelacblnjbfgaa.Held
namespace Go.Proofs.Ytjelacblnjbfgaa.Held
open Go.RowKit Go.Proofs.Ytjelacblnjbfgaa.Mem
set_option linter.unusedVariables false
section
variable {P : Program} {ops : Array Oper} {Q : Exit → Act → World → Prop}
/-- append onto what the call owns; rows apart from it stay, and stay apart -/
theorem op_append_keep (i : Nat) (d : Option Tmp) {o : Oper} {a : Act} {w : World} {K : Act → World → Prop} {s x : Operand} (ts : TypeId) (hi : ops[i]? = some o) (hd : o.dst = d) (hw : Region.wanted o (yielded ops a.tmps) = true)
    (ho : o.op = .call { callee := .builtin .append, args := #[s, x], argTypes := #[ts, ts] }) (base : Nat) (e : TypeId) (k : IntKind) (bytes : Nat) (ht : P.underlying ts = some (.slice e))
    (hinfo : (P.info? e).map (fun i => (i.zero, i.size, i.bytes)) = some (some (.int k 0), 1, bytes)) (v : Value) (zs : List Int) (hs : a.eval s = v) (hown : Mem.Own w base e k v zs)
    (B : Nat) (A : Option Addr) (m c : Nat) (xs : List Int) (hx : a.eval x = .slice A m c) (hr : Ints w k B A m xs) (hlen : zs.length + m ≤ 17592186044416) (hby : bytes ≤ 8) (hbase : base ≤ w.heap.size)
    (h : ∀ A' n' c' w', Mem.Own w' base e k (.slice A' n' c') (zs ++ xs) → w.grownBy w' v.ownBlock → n' ≤ c' → c' ≤ maxLen → Hid ((zs ++ xs).length = n') → Ints w' k w'.heap.size A' n' (zs ++ xs) →
      (∀ p t q ys, Row w p t q ys → some p ≠ v.ownBlock → Row w' p t q ys ∧ some p ≠ (Value.slice A' n' c').ownBlock) → K (a.put d (.slice A' n' c')) w') : wpOp P ops Q i K a w := by
  subst hd
  refine op_wp i hi hw ?_
  obtain ⟨v', w', hrun, h2, h3, h3'⟩ := run_append_ints (P := P) w base ts o.type e k bytes ht hinfo v zs hown B A m c xs hr hlen hby hbase
  obtain ⟨A', c', rfl, h4, h5, h6⟩ := h2.form
  refine Lib.wp_append_run w s x ts ts ho _ _ hs hx _ w' hrun (h _ _ _ w' h2 h3 h4 h5 (Lib.hid rfl) h6 fun p t q ys hrow hne => ⟨hrow.grown h3 hne, ?_⟩)
  rcases h3' with e1 | e1
  · rw [e1]; exact hne
  · rw [e1]
    intro e2
    injection e2 with e2
    have := hrow.lt
    omega
/-- a new list of numbers, as a row of its own -/
theorem op_build_Row (i : Nat) (d : Option Tmp) {o : Oper} {a : Act} {w : World} {K : Act → World → Prop} (t e : TypeId) (len : Nat) {parts : Array (Nat × Operand)} (k : IntKind) (bytes : Nat) (zs : List Int) (hi : ops[i]? = some o) (hd : o.dst = d) (hw : Region.wanted o (yielded ops a.tmps) = true)
    (ho : o.op = .buildSlice t len parts) (hu : P.underlying t = some (.slice e)) (hinfo : (P.info? e).map (fun i => (i.zero, i.size, i.bytes)) = some (some (.int k 0), 1, bytes))
    (hp : (parts.map fun (i, x) => (i, a.eval x)).toList = ((zs.map (Value.int k)).zipIdx 0).map fun x => (x.2, x.1)) (hl : zs.length = len) (h0 : 0 < len) (hlen : len ≤ 1000) (hwf : ∀ z ∈ zs, (Lit.int k z).wf = true)
    (h : ∀ p w', Row w' p e k zs → Below w.heap.size w w' → Hid (w.heap.size ≤ p) → K (a.put d (.slice (some ⟨p, 0, none⟩) len len)) w') : wpOp P ops Q i K a w := by
  subst hd
  refine op_wp i hi hw ?_
  obtain ⟨ie, hie, hz, hsz, _⟩ := info_parts hinfo
  have hl' : (zs.map (Value.int k)).length = len := by simpa using hl
  have h' := h w.heap.size _ (Row.new w e hwf) ((Below.refl _ w).alloc (Nat.le_refl _) _) (Lib.hid (Nat.le_refl _))
  unfold arr at h'
  have h1 : ∀ v ∈ zs.map (Value.int k), v.cells = #[v] := by intro v hv; obtain ⟨z, _, rfl⟩ := List.mem_map.1 hv; rfl
  generalize zs.map (Value.int k) = vs at hp hl' h' h1
  subst hl'
  refine Go.wp_buildSlice t e vs.length parts ho vs.toArray ie (.int k 0) hu hie hz (by rw [hsz]; omega) (by rw [hsz]; omega) ?_ h'
  rw [hp]
  simp only [hsz]
  exact Go.Great.fill_flat vs _ h1 (by simp)
end
theorem apart_new {w : World} {base p : Nat} {t : TypeId} {k : IntKind} {v : Value} {zs : List Int} (h : Mem.Own w base t k v zs) (hp : w.heap.size ≤ p) : some p ≠ v.ownBlock := fun e => by
  have := (h.2.lt p e.symm).2
  omega
end Go.Proofs.Ytjelacblnjbfgaa.Held
namespace Go.Proofs.Ytjelacblnjbfgaa.Ky
open Go.Proofs.Ytjelacblnjbfgaa.Sum Go.Proofs.Ytjelacblnjbfgaa.Po
set_option linter.unusedVariables false

/-- a number's decimal digits -/
def decN (n : Nat) : List Int := if n < 10 then [48 + (n : Int)] else decN (n / 10) ++ [48 + ((n % 10 : Nat) : Int)]
termination_by n
decreasing_by omega
/-- with a sign ahead of one below 0 -/
def decI (v : Int) : List Int := if v < 0 then 45 :: decN (-v).toNat else decN v.toNat
/-- what digits say -/
def undec : List Int → Nat → Nat
  | [], a => a
  | d :: ds, a => undec ds (10 * a + (d - 48).toNat)
theorem undec_append : ∀ (xs ys : List Int) (a : Nat), undec (xs ++ ys) a = undec ys (undec xs a)
  | [], _, _ => rfl
  | x :: xs, ys, a => undec_append xs ys _
theorem decN_mem (n : Nat) : ∀ z ∈ decN n, 48 ≤ z ∧ z ≤ 57 := by
  induction n using decN.induct with
  | case1 n h =>
    intro z hz
    rw [decN, if_pos h, List.mem_singleton] at hz
    omega
  | case2 n h ih =>
    intro z hz
    rw [decN, if_neg h] at hz
    rcases List.mem_append.1 hz with hz | hz
    · exact ih z hz
    · rw [List.mem_singleton] at hz
      omega
theorem undec_dec (n : Nat) : undec (decN n) 0 = n := by
  induction n using decN.induct with
  | case1 n h =>
    rw [decN, if_pos h]
    simp only [undec]
    omega
  | case2 n h ih =>
    rw [decN, if_neg h, undec_append, ih]
    simp only [undec]
    omega
theorem decN_inj {a b : Nat} (h : decN a = decN b) : a = b := by rw [← undec_dec a, h, undec_dec]
theorem decN_length (n : Nat) : ∀ k, n < 10 ^ (k + 1) → (decN n).length ≤ k + 1 := by
  induction n using decN.induct with
  | case1 n h =>
    intro k _
    rw [decN, if_pos h]
    simp
  | case2 n h ih =>
    intro k hk
    rw [decN, if_neg h, List.length_append, List.length_singleton]
    cases k with
    | zero => simp at hk; omega
    | succ k =>
      have := ih k (by rw [Nat.pow_succ] at hk; omega)
      omega
theorem decN_pos (n : Nat) : decN n ≠ [] := by
  rw [decN]
  split <;> simp
theorem decI_mem (v : Int) : ∀ z ∈ decI v, z = 45 ∨ (48 ≤ z ∧ z ≤ 57) := fun z hz => by
  unfold decI at hz
  split at hz
  · rcases List.mem_cons.1 hz with h | h
    · exact .inl h
    · exact .inr (decN_mem _ z h)
  · exact .inr (decN_mem _ z hz)
theorem decI_inj {a b : Int} (h : decI a = decI b) : a = b := by
  have hn : ∀ n, ∀ xs : List Int, decN n ≠ 45 :: xs := fun n xs e => by
    have := decN_mem n 45 (by rw [e]; simp)
    omega
  unfold decI at h
  split at h <;> split at h
  · injection h with _ h
    have := decN_inj h
    omega
  · exact absurd h.symm (hn _ _)
  · exact absurd h (hn _ _)
  · have := decN_inj h
    omega
/-- what stands ahead of a sign that is in neither is alike -/
theorem cut_inj {s : Int} : ∀ {xs ys : List Int} {us vs : List Int}, s ∉ xs → s ∉ ys → xs ++ s :: us = ys ++ s :: vs → xs = ys ∧ us = vs
  | [], [], us, vs, _, _, h => by simpa using h
  | [], y :: ys, us, vs, _, h2, h => by
    injection h with h _
    exact absurd (by rw [h]; simp) h2
  | x :: xs, [], us, vs, h1, _, h => by
    injection h with h _
    exact absurd (by rw [h]; simp) h1
  | x :: xs, y :: ys, us, vs, h1, h2, h => by
    injection h with h3 h4
    have := cut_inj (fun e => h1 (List.mem_cons_of_mem _ e)) (fun e => h2 (List.mem_cons_of_mem _ e)) h4
    exact ⟨by rw [h3, this.1], this.2⟩
/-- a place's name -/
def name (ph r a : Int) (t : Nat) (i : Int) : List Int := [112] ++ decI ph ++ [46, 114] ++ decI r ++ [46, 97] ++ decI a ++ [46, 116] ++ decN t ++ [46, 105] ++ decI i
theorem no_dot (v : Int) : (46 : Int) ∉ decI v := fun h => by have := decI_mem v 46 h; omega
theorem no_dotN (n : Nat) : (46 : Int) ∉ decN n := fun h => by have := decN_mem n 46 h; omega
theorem name_inj {ph r a i ph' r' a' i' : Int} {t t' : Nat} (h : name ph r a t i = name ph' r' a' t' i') : ph = ph' ∧ r = r' ∧ a = a' ∧ t = t' ∧ i = i' := by
  simp only [name, List.append_assoc, List.cons_append, List.nil_append] at h
  injection h with _ h
  obtain ⟨h1, h⟩ := cut_inj (no_dot ph) (no_dot ph') h
  injection h with _ h
  obtain ⟨h2, h⟩ := cut_inj (no_dot r) (no_dot r') h
  injection h with _ h
  obtain ⟨h3, h⟩ := cut_inj (no_dot a) (no_dot a') h
  injection h with _ h
  obtain ⟨h4, h⟩ := cut_inj (no_dotN t) (no_dotN t') h
  injection h with _ h5
  exact ⟨decI_inj h1, decI_inj h2, decI_inj h3, decN_inj h4, decI_inj h5⟩
theorem name_mem (ph r a : Int) (t : Nat) (i : Int) : Bs (name ph r a t i) := fun z hz => by
  have hI := fun v (h : z ∈ decI v) => decI_mem v z h
  have hN := fun n (h : z ∈ decN n) => decN_mem n z h
  simp only [name, List.mem_append, List.mem_cons, List.not_mem_nil, or_false] at hz
  rcases hz with (((((((((h | h) | (h | h)) | h) | (h | h)) | h) | (h | h)) | h) | (h | h)) | h) <;> first | omega | (have := hI _ h; omega) | (have := hN _ h; omega)
/-- numbers, eight bytes each -/
def eights (vs : List Int) : List Int := vs.flatMap fun v => digits v 8
theorem eights_length : ∀ vs : List Int, (eights vs).length = 8 * vs.length
  | [] => rfl
  | v :: vs => by
    have := eights_length vs
    simp only [eights, List.flatMap_cons, List.length_append, digits_length, List.length_cons] at this ⊢
    omega
theorem eights_bytes (vs : List Int) : Bs (eights vs) := fun z hz => by
  obtain ⟨v, _, h⟩ := List.mem_flatMap.1 hz
  exact digits_bytes 8 v z h
theorem digits_inj {a b : Int} {k : Nat} (h : digits a k = digits b k) : a % 256 ^ k = b % 256 ^ k := by rw [← val_digits, h, val_digits]
theorem eights_inj : ∀ {us vs : List Int}, us.length = vs.length → eights us = eights vs → us.map (· % 2 ^ 64) = vs.map (· % 2 ^ 64)
  | [], [], _, _ => rfl
  | [], _ :: _, h, _ => by cases h
  | _ :: _, [], h, _ => by cases h
  | u :: us, v :: vs, hl, h => by
    simp only [eights, List.flatMap_cons] at h
    obtain ⟨h1, h2⟩ := List.append_inj h (by rw [digits_length, digits_length])
    have h3 := digits_inj h1
    rw [show (256 : Int) ^ 8 = 2 ^ 64 by decide] at h3
    rw [List.map_cons, List.map_cons, h3, eights_inj (by simpa using hl) h2]
/-- a nonce -/
def nonce (a i : Int) : List Int := digits a 8 ++ digits i 4
theorem nonce_length (a i : Int) : (nonce a i).length = 12 := by simp [nonce, digits_length]
theorem nonce_bytes (a i : Int) : Bs (nonce a i) := fun z hz => by
  rcases List.mem_append.1 hz with h | h
  · exact digits_bytes _ _ z h
  · exact digits_bytes _ _ z h
theorem nonce_inj {a b i k : Int} (h : nonce a i = nonce b k) : a % 2 ^ 64 = b % 2 ^ 64 ∧ i % 2 ^ 32 = k % 2 ^ 32 := by
  obtain ⟨h1, h2⟩ := List.append_inj h (by rw [digits_length, digits_length])
  have h3 := digits_inj h1
  have h4 := digits_inj h2
  rw [show (256 : Int) ^ 8 = 2 ^ 64 by decide] at h3
  rw [show (256 : Int) ^ 4 = 2 ^ 32 by decide] at h4
  exact ⟨h3, h4⟩
end Go.Proofs.Ytjelacblnjbfgaa.Ky
namespace Go.Proofs.Ytjelacblnjbfgaa.Rc
open Go.RowKit Go.Shelf Go.Proofs.Ytjelacblnjbfgaa.Mem Go.Proofs.Ytjelacblnjbfgaa.Help Go.Proofs.Ytjelacblnjbfgaa.Sum Go.Proofs.Ytjelacblnjbfgaa.Po Go.Proofs.Ytjelacblnjbfgaa.Ct Go.Proofs.Ytjelacblnjbfgaa.Bit Go.Proofs.Ytjelacblnjbfgaa.Held Go.Proofs.Ytjelacblnjbfgaa
set_option linter.unusedVariables false
attribute [local irreducible] wpList wpListIn Calls

/-- a number as of 64 bits, and back -/
def u64 (x : Int) : Int := x % 18446744073709551616
theorem u64_eq (x : Int) : IntKind.u64.wrap x = u64 x := by rw [IntKind.wrap_u64]; rfl
theorem u64_wf (x : Int) : (Lit.int .u64 (u64 x)).wf = true := wf_64 (by unfold u64; omega)
theorem u64_inj {x y : Int} (hx : (Lit.int .i64 x).wf = true) (hy : (Lit.int .i64 y).wf = true) : (u64 x = u64 y) ↔ x = y := by
  have := wf_i64 hx
  have := wf_i64 hy
  unfold u64
  omega
theorem i64_u64 {x : Int} (hx : (Lit.int .i64 x).wf = true) : IntKind.i64.wrap (u64 x) = x := by
  have := wf_i64 hx
  rw [IntKind.wrap_i64]
  unfold u64
  omega
theorem u64_i64 {x : Int} (hx : (Lit.int .u64 x).wf = true) : u64 (IntKind.i64.wrap x) = x := by
  have := wf_u64 hx
  rw [IntKind.wrap_i64]
  unfold u64
  omega
theorem i64_wf (x : Int) : (Lit.int .i64 (IntKind.i64.wrap x)).wf = true := by
  rw [IntKind.wrap_i64]
  simp [Lit.wf, IntKind.min, IntKind.max, IntKind.signed, IntKind.bits]
  omega
/-- which of two stands ahead -/
def ahd (da : Bool) (ka : Int) (db : Bool) (kb : Int) : Bool := !da && (db || decide (ka < kb))
def bef (da : Bool) (ka sa : Int) (db : Bool) (kb sb : Int) : Bool := !da && (db || (decide (ka < kb) || (decide (ka = kb) && decide (sa < sb))))
theorem one_wf (b : Bool) : (Lit.int .u64 (oneI b)).wf = true := by cases b <;> rfl
theorem lead_eq (da db l : Bool) : bits .and .u64 (bits .xor .u64 1 (oneI da)) (bits .or .u64 (oneI db) (oneI l)) = oneI (!da && (db || l)) := by cases da <;> cases db <;> cases l <;> decide
theorem or_one (a b : Bool) : bits .or .u64 (oneI a) (oneI b) = oneI (a || b) := by cases a <;> cases b <;> decide
theorem and_one_ (a b : Bool) : bits .and .u64 (oneI a) (oneI b) = oneI (a && b) := by cases a <;> cases b <;> decide
theorem low_eq (x y : Int) : low x y = oneI (decide (x < y)) := (oneI_low x y).symm
theorem alike_eq (x y : Int) : alike x y = oneI (decide (x = y)) := by
  rw [← oneI_alike]
  congr 1

theorem same_b (x y : Int) (hx : (Lit.int .u64 x).wf = true) (hy : (Lit.int .u64 y).wf = true) (w : World) :
    Calls Try.prog 49 #[.int .u64 x, .int .u64 y] w fun e w' => e = .returned (.int .u64 (oneI (decide (x = y)))) ∧ Below w.heap.size w w' := by
  have h1 := wf_u64 hx
  have h2 := wf_u64 hy
  rw [← alike_eq]
  exact (Ct.same_any x y h1.1 (by omega) h2.1 (by omega) w).mono fun _ _ ⟨h, e⟩ => ⟨h, e ▸ Below.refl _ _⟩
theorem pick_b (c x y : Int) (hc : (Lit.int .u64 c).wf = true) (hx : (Lit.int .u64 x).wf = true) (hy : (Lit.int .u64 y).wf = true) (w : World) :
    Calls Try.prog 43 #[.int .u64 c, .int .u64 x, .int .u64 y] w fun e w' => e = .returned (.int .u64 (pickI c x y)) ∧ Below w.heap.size w w' := by
  have h0 := wf_u64 hc
  have h1 := wf_u64 hx
  have h2 := wf_u64 hy
  exact (pick_any c x y h0.1 (by omega) h1.1 (by omega) h2.1 (by omega) w).mono fun _ _ ⟨h, e⟩ => ⟨h, e ▸ Below.refl _ _⟩
theorem one_b (b : Bool) (w : World) : Calls Try.prog 34 #[.bool b] w fun e w' => e = .returned (.int .u64 (oneI b)) ∧ Below w.heap.size w w' := by
  cases b
  all_goals
    go_enter Try.func34, Try.ntmps34
    go_wp2
    go_ret
    exact ⟨rfl, Below.refl _ _⟩
end Go.Proofs.Ytjelacblnjbfgaa.Rc
namespace Go.Proofs.Ytjelacblnjbfgaa.Rc
open Go.RowKit Go.ChangeShapes Go.WideShapes Go.Proofs.Ytjelacblnjbfgaa.Mem
set_option linter.unusedVariables false

theorem rec_fields : ∃ f0 f1 f2 f3 : Field, Try.prog.underlying 27 = some (.struct #[f0, f1, f2, f3]) ∧ (f0.offset = 0 ∧ f0.type = 4) ∧ (f1.offset = 1 ∧ f1.type = 2) ∧ (f2.offset = 2 ∧ f2.type = 2) ∧ (f3.offset = 3 ∧ f3.type = 2) :=
  ⟨_, _, _, _, Try.underlying27, ⟨rfl, rfl⟩, ⟨rfl, rfl⟩, ⟨rfl, rfl⟩, ⟨rfl, rfl⟩⟩
section
variable {H : Type} {enc : TypeId × Value → H} {w : World} {base : Nat} {spare : Nat → Bool} {held : Bool}
theorem field_int {cs : List Value} {j n : Nat} {t : TypeId} {k : IntKind} {x : Option (DataW H × List MemPlace)} (hj : j < cs.length) (ht : Try.prog.underlying t = some (.int k)) (h : DataW.trod enc Try.prog w base spare held n t ((cs.drop j).take 1) = x) (hx : x.isSome = true) : ∃ z, cs[j]? = some (.int k z) ∧ (Lit.int k z).wf = true := by
  obtain ⟨y, rfl⟩ := Option.isSome_iff_exists.1 hx
  obtain ⟨z, h2, _, h3⟩ := DataW.trod_int ht h
  rw [List.drop_eq_getElem_cons hj] at h2
  simp only [List.take_succ_cons, List.take_zero] at h2
  exact ⟨z, by rw [List.getElem?_eq_getElem hj, (List.cons.inj h2).1], h3⟩
theorem field_bool {cs : List Value} {j n : Nat} {t : TypeId} {x : Option (DataW H × List MemPlace)} (hj : j < cs.length) (ht : Try.prog.underlying t = some .bool) (h : DataW.trod enc Try.prog w base spare held n t ((cs.drop j).take 1) = x) (hx : x.isSome = true) : ∃ b, cs[j]? = some (.bool b) := by
  obtain ⟨y, rfl⟩ := Option.isSome_iff_exists.1 hx
  obtain ⟨z, h2, _⟩ := DataW.trod_bool ht h
  rw [List.drop_eq_getElem_cons hj] at h2
  simp only [List.take_succ_cons, List.take_zero] at h2
  exact ⟨z, by rw [List.getElem?_eq_getElem hj, (List.cons.inj h2).1]⟩
set_option maxRecDepth 100000 in
theorem open_rec {r : Reach} {b0 : Nat} {v : Value} {d : DataW H} {p : List MemPlace} (hval : Value.okWide Try.prog w r b0 27 v) (h : DataW.Trod enc Try.prog w base spare held 27 v d p) :
    ∃ (x : Bool) (k v' s : Int), v = .agg #[.bool x, .int .i64 k, .int .i64 v', .int .i64 s] ∧ (Lit.int .i64 k).wf = true ∧ (Lit.int .i64 v').wf = true ∧ (Lit.int .i64 s).wf = true := by
  obtain ⟨f0, f1, f2, f3, hu, ⟨o0, t0⟩, ⟨o1, t1⟩, ⟨o2, t2⟩, ⟨o3, t3⟩⟩ := rec_fields
  obtain ⟨cs, rfl, hsz⟩ := okWide_struct hu hval
  obtain ⟨fuel, hf⟩ := h
  simp only [Value.cells] at hf
  obtain ⟨xs, m, _, _, hl, hxl, hel⟩ := DataW.trod_struct hu hf
  have cb : Try.prog.cellsOf 4 = 1 := by kernel_rfl
  have ci : Try.prog.cellsOf 2 = 1 := by kernel_rfl
  have c4 : Try.prog.cellsOf 27 = 4 := by kernel_rfl
  rw [c4] at hl
  have hx4 : xs.length = 4 := hxl
  have e0 := hel 0 f0 rfl
  have e1 := hel 1 f1 rfl
  have e2 := hel 2 f2 rfl
  have e3 := hel 3 f3 rfl
  rw [o0, t0, cb] at e0
  rw [o1, t1, ci] at e1
  rw [o2, t2, ci] at e2
  rw [o3, t3, ci] at e3
  obtain ⟨z0, q0⟩ := field_bool (by omega) Try.underlying4 e0 (by simp [hx4])
  obtain ⟨z1, q1, w1⟩ := field_int (by omega) Try.underlying2 e1 (by simp [hx4])
  obtain ⟨z2, q2, w2⟩ := field_int (by omega) Try.underlying2 e2 (by simp [hx4])
  obtain ⟨z3, q3, w3⟩ := field_int (by omega) Try.underlying2 e3 (by simp [hx4])
  refine ⟨z0, z1, z2, z3, ?_, w1, w2, w3⟩
  congr 1
  apply Array.ext'
  apply List.ext_getElem?
  intro i
  match i with
  | 0 => exact q0
  | 1 => exact q1
  | 2 => exact q2
  | 3 => exact q3
  | i + 4 => rw [List.getElem?_eq_none (by omega), List.getElem?_eq_none (by simp)]
end
theorem eql_arr_d {P : Program} (w : World) (t e : TypeId) (n : Nat) (k : IntKind) (xs ys : List Int) (ht : P.underlying t = some (.array n e)) (he : P.underlying e = some (.int k)) (hs : (P.info? e).map (·.size) = some 1) (hx : xs.length = n) (hy : ys.length = n) :
    (binOp .eql t (.agg (arr k xs)) (.agg (arr k ys))).run P w = .ok (.bool (decide (xs = ys))) w := by
  obtain ⟨inf, hi, h1⟩ := Option.map_eq_some_iff.1 hs
  have hc : P.cellsOf e = 1 := by simp [Program.cellsOf, hi, h1]
  have key : (Op.equalIn (9998 + 1 + 1) t (.agg (arr k xs)) (.agg (arr k ys))).run P w = .ok ((List.range n).all fun i => xs.getD i 0 == ys.getD i 0) w := by
    rw [run_equalIn_array w (9998 + 1) _ _ ht hi, hc]
    have hl : ∀ i ∈ List.range n, i < n := fun i hi => List.mem_range.1 hi
    generalize List.range n = l at hl ⊢
    induction l with
    | nil => simp [Op.eqItems]
    | cons i l ih =>
      have hi : i < n := hl i (by simp)
      have px : (Go.part e (arr k xs) (i * 1)).run P w = .ok (.int k (xs.getD i 0)) w := by
        have := arr_get k xs (i := i) (by omega)
        simp [Go.part, isAgg, run_underlying he, this]
      have py : (Go.part e (arr k ys) (i * 1)).run P w = .ok (.int k (ys.getD i 0)) w := by
        have := arr_get k ys (i := i) (by omega)
        simp [Go.part, isAgg, run_underlying he, this]
      have pe : (Op.equalIn (9998 + 1) e (.int k (xs.getD i 0)) (.int k (ys.getD i 0))).run P w = .ok (xs.getD i 0 == ys.getD i 0) w := run_equalIn_int w 9998 e k k _ _ he
      rw [Op.eqItems]
      simp only [Sem.run_bind, px, py, pe, Result.andThen_ok, List.all_cons]
      by_cases hq : xs.getD i 0 = ys.getD i 0
      · have hb : (xs.getD i 0 == ys.getD i 0) = true := by simpa using hq
        rw [hb]
        simp only [Bool.not_true, Bool.false_eq_true, if_false, Bool.true_and]
        exact ih fun j hj => hl j (by simp [hj])
      · have hb : (xs.getD i 0 == ys.getD i 0) = false := by simpa using hq
        rw [hb]
        simp
  have hall : ((List.range n).all fun i => xs.getD i 0 == ys.getD i 0) = decide (xs = ys) := by
    rw [Bool.eq_iff_iff]
    simp only [List.all_eq_true, List.mem_range, beq_iff_eq, decide_eq_true_eq]
    refine ⟨fun h => List.ext_getElem (by omega) fun i h1 h2 => ?_, fun h i _ => by rw [h]⟩
    have := h i (by omega)
    simpa [List.getD_eq_getElem?_getD, h1, h2] using this
  rw [run_eql_struct, show (10000 : Nat) = 9998 + 1 + 1 from rfl, key, hall]
  rfl

theorem key_rec (w : World) (d : Bool) (k v s : Int) (d' : Bool) (k' v' s' : Int) :
    (Op.equalIn 10000 27 (.agg #[.bool d, .int .i64 k, .int .i64 v, .int .i64 s]) (.agg #[.bool d', .int .i64 k', .int .i64 v', .int .i64 s'])).run Try.prog w = .ok (decide (d = d' ∧ k = k' ∧ v = v' ∧ s = s')) w := by
  have hu : Try.prog.underlying 27 = some (.struct (Try.prog.fieldsOf 27)) := by kernel_rfl
  have hp : Try.prog.stoodInHeld 27 = false := by kernel_rfl
  have ei : ∀ (d : Nat) (k : IntKind) (x y : Int), (Op.equalIn (d + 1) 2 (.int k x) (.int k y)).run Try.prog w = .ok (x == y) w := fun d k x y => run_equalIn_int w d 2 k .i64 x y Try.underlying2
  have eb : ∀ (d : Nat) (x y : Bool), (Op.equalIn (d + 1) 4 (.bool x) (.bool y)).run Try.prog w = .ok (x == y) w := fun d x y => by
    simp [Op.equalIn, run_underlying Try.underlying4]
  rw [show (10000 : Nat) = 9998 + 1 + 1 from rfl, run_equalIn_agg w (9998 + 1) _ _ _ hu hp]
  simp only [Program.fieldsOf, Try.underlying27, Op.eqFields, Go.part, isAgg, Sem.run_bind, run_underlying Try.underlying2, run_underlying Try.underlying4, Result.andThen_ok, Sem.run_pure, Sem.run_ite]
  simp [ei, eb]
  by_cases h0 : d = d' <;> by_cases h1 : k = k' <;> by_cases h2 : v = v' <;> by_cases h3 : s = s' <;> simp [h0, h1, h2, h3]
theorem eql_rec (w : World) (d : Bool) (k v s : Int) (d' : Bool) (k' v' s' : Int) :
    (binOp .eql 27 (.agg #[.bool d, .int .i64 k, .int .i64 v, .int .i64 s]) (.agg #[.bool d', .int .i64 k', .int .i64 v', .int .i64 s'])).run Try.prog w = .ok (.bool (decide (d = d' ∧ k = k' ∧ v = v' ∧ s = s'))) w := by
  rw [run_eql_struct, key_rec]
  rfl
theorem neq_rec (w : World) (d : Bool) (k v s : Int) (d' : Bool) (k' v' s' : Int) :
    (binOp .neq 27 (.agg #[.bool d, .int .i64 k, .int .i64 v, .int .i64 s]) (.agg #[.bool d', .int .i64 k', .int .i64 v', .int .i64 s'])).run Try.prog w = .ok (.bool (!decide (d = d' ∧ k = k' ∧ v = v' ∧ s = s'))) w := by
  rw [run_neq_struct, key_rec]
  rfl
section
variable {S : World → Prop} {ρ : Operand → Value} {o : Oper}
theorem y_eqr {ty : TypeId} {x y : Operand} {d : Bool} {k v s : Int} {d' : Bool} {k' v' s' : Int} {r : Bool} (ho : o.op = .binOp .eql 27 x y ty) (hx : ρ x = .agg #[.bool d, .int .i64 k, .int .i64 v, .int .i64 s]) (hy : ρ y = .agg #[.bool d', .int .i64 k', .int .i64 v', .int .i64 s'])
    (hr : decide (d = d' ∧ k = k' ∧ v = v' ∧ s = s') = r) : ∀ w, S w → (execOp ρ o).run Try.prog w = .ok (.value (.bool r)) w :=
  Held.y_bin ho hx hy (fun w => by simp [eqGuard, show Try.prog.eqGuardType Try.prog.depth 27 = false by kernel_rfl]) (fun w => by rw [← hr]; exact eql_rec w d k v s d' k' v' s')
theorem y_ner {ty : TypeId} {x y : Operand} {d : Bool} {k v s : Int} {d' : Bool} {k' v' s' : Int} {r : Bool} (ho : o.op = .binOp .neq 27 x y ty) (hx : ρ x = .agg #[.bool d, .int .i64 k, .int .i64 v, .int .i64 s]) (hy : ρ y = .agg #[.bool d', .int .i64 k', .int .i64 v', .int .i64 s'])
    (hr : (!decide (d = d' ∧ k = k' ∧ v = v' ∧ s = s')) = r) : ∀ w, S w → (execOp ρ o).run Try.prog w = .ok (.value (.bool r)) w :=
  Held.y_bin ho hx hy (fun w => by simp [eqGuard, show Try.prog.eqGuardType Try.prog.depth 27 = false by kernel_rfl]) (fun w => by rw [← hr]; exact neq_rec w d k v s d' k' v' s')
theorem y_eqa {P : Program} {t e ty : TypeId} {x y : Operand} {k : IntKind} {xs ys : List Int} {n : Nat} {r : Bool} (ho : o.op = .binOp .eql t x y ty) (hx : ρ x = .agg (arr k xs)) (hy : ρ y = .agg (arr k ys)) (hr : decide (xs = ys) = r) (hq : P.eqGuardType P.depth t = false) (ht : P.underlying t = some (.array n e)) (he : P.underlying e = some (.int k)) (hs : (P.info? e).map (·.size) = some 1) (hn : xs.length = n) (hn' : ys.length = n) :
    ∀ w, S w → (execOp ρ o).run P w = .ok (.value (.bool r)) w := Held.y_bin ho hx hy (fun w => by simp [eqGuard, hq]) (fun w => by rw [← hr]; exact eql_arr_d w t e n k xs ys ht he hs hn hn')
end
end Go.Proofs.Ytjelacblnjbfgaa.Rc
