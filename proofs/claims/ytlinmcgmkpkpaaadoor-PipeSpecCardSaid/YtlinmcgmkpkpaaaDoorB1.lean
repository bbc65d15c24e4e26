/-
  Plain facts about the bits of unsigned numbers: no program here.
  The functions of package ct, each by its contract: what it returns for any numbers.
  Words for slices of numbers in memory, and small facts about them: no program here.
  Slices that a call itself has made: what they hold, what append and a store make of them: no program here.
  Arrays of numbers, in blocks of their own and by value: no program here.
  Two arrays of the same integers are alike, by the model's own '=='.
  Slices of values of one cell each (slices of slices among them): no program here.
  append(s, make([]T, m)...) onto what the call owns, for numbers: no program here.
  A region that draws its order, gone through by hand, operation by operation: what hangs on no world is taken first, what comes up alone is carried out.
  A range over a function whose iterator keeps cells of its own, and whose body never leaves early: what the iterator is told of the rounds, and what the loop owes: no program here.
  A range over a function whose iterator keeps cells of its own, and whose body may leave early (or whose iterator never ends by itself): what the iterator is told of the rounds, counted, and what the loop owes: no program here.
  Arrays in boxes, read, stored and copied into, within a fence; what an iterator's round keeps: no program here.
-/
import Derived.WalkKit
import Derived.Test.YtlinmcgmkpkpaaaDoorRows
import Derived.ProofKit
import Derived.OpenShut
import Derived.Lib.Hide
import Derived.Below
import Derived.Deep.Draws
import Derived.Deep.QuietTactic
import Derived.BigQuiet
import Derived.Laws.OwnMore
import Derived.Maps.AppendAt
import Derived.OwnWalk
import Derived.RegionTactic
import Derived.Laws.BytesArg
import Derived.Laws.Rows
import Derived.Laws.Tables
import Derived.ChangeKeysEq
import Derived.Deep.OwnRows
import Derived.Laws.Slices
import Derived.Laws.StructEq
import Derived.Lib.AppendZerosOnto
import Derived.Deep.RegionHeld
import Derived.Great.BuildSlice
import Derived.Great.FillDense
import Derived.Shelf.Abstract
import Derived.RangeFuncNested
import Derived.RangeFuncBound
import Derived.RangeFuncCalls
import Derived.RangeFuncLeaves
import Derived.Shelf.RegionOpen
import Derived.OwnWalkIn
import Derived.TacticsInMore
import Derived.LoopNIn
import Derived.LoopIn
import Derived.Laws.CopyOwn
set_option linter.unusedVariables false
namespace Go.Proofs.YtlinmcgmkpkpaaaDoor.Bit
open Go.RowKit
def low (x y : Int) : Int := if x < y then 1 else 0
def alike (x y : Int) : Int := if x = y then 1 else 0
def pickI (c x y : Int) : Int := if c % 2 = 1 then x else y
theorem xor_u64_range (x y : Int) (hx : 0 ≤ x) (hx' : x < 18446744073709551616) (hy : 0 ≤ y) (hy' : y < 18446744073709551616) :
    0 ≤ bits .xor .u64 x y ∧ bits .xor .u64 x y < 18446744073709551616 := by
  rw [u64_xor x y hx hx' hy hy']
  have h : x.toNat ^^^ y.toNat < 2 ^ 64 := Nat.xor_lt_two_pow (by omega) (by omega)
  omega
theorem xor_top (n : Int) (h : 0 ≤ n) (h' : n < 18446744073709551616) : bits .xor .u64 n 9223372036854775808 = (n + 9223372036854775808) % 18446744073709551616 := by
  rw [u64_xor n _ h h' (by omega) (by omega)]
  obtain ⟨m, rfl⟩ := Int.eq_ofNat_of_zero_le h
  have e : (m ^^^ 9223372036854775808) = (m + 9223372036854775808) % 18446744073709551616 := by
    have t := Nat.xor_mod_two_pow (a := m) (b := 9223372036854775808) (n := 63)
    have q := Nat.xor_div_two_pow (a := m) (b := 9223372036854775808) (n := 63)
    simp only [show (2 : Nat) ^ 63 = 9223372036854775808 from rfl] at t q
    have z : m / 9223372036854775808 = 0 ∨ m / 9223372036854775808 = 1 := by omega
    rcases z with z | z <;> rw [z] at q <;> simp at q t <;> omega
  simp only [Int.toNat_natCast]
  have h9 : (9223372036854775808 : Int).toNat = 9223372036854775808 := rfl
  rw [h9, e]
  omega
theorem below_eq (x y : Int) (hx : -9223372036854775808 ≤ x) (hx' : x ≤ 9223372036854775807) (hy : -9223372036854775808 ≤ y) (hy' : y ≤ 9223372036854775807) :
    low (bits .xor .u64 (IntKind.u64.wrap x) 9223372036854775808) (bits .xor .u64 (IntKind.u64.wrap y) 9223372036854775808) = low x y := by
  rw [IntKind.wrap_u64, IntKind.wrap_u64, xor_top _ (by omega) (by omega), xor_top _ (by omega) (by omega)]
  unfold low
  split <;> split <;> omega
theorem or_neg (d : Nat) (h : 0 < d) (h' : d < 18446744073709551616) : (d ||| (18446744073709551616 - d)) / 9223372036854775808 = 1 := by
  have a : d ≤ d ||| (18446744073709551616 - d) := Nat.left_le_or
  have b : 18446744073709551616 - d ≤ d ||| (18446744073709551616 - d) := Nat.right_le_or
  have c : d ||| (18446744073709551616 - d) < 2 ^ 64 := Nat.or_lt_two_pow (by omega) (by omega)
  omega
theorem zero_flag (d : Int) (h : 0 ≤ d) (h' : d < 18446744073709551616) :
    bits .xor .u64 1 (bits .or .u64 d (IntKind.u64.wrap (-d)) / 9223372036854775808) = alike d 0 := by
  rw [IntKind.wrap_u64]
  by_cases z : d = 0
  · subst z; rfl
  · have e : -d % 18446744073709551616 = 18446744073709551616 - d := by omega
    rw [e, u64_or d _ h h' (by omega) (by omega)]
    have f : (18446744073709551616 - d).toNat = 18446744073709551616 - d.toNat := by omega
    have g := or_neg d.toNat (by omega) (by omega)
    rw [f]
    have k : ((d.toNat ||| (18446744073709551616 - d.toNat) : Nat) : Int) / 9223372036854775808 = 1 := by omega
    rw [k]
    unfold alike
    rw [if_neg z]
    rfl
theorem xor_zero (x y : Int) (hx : 0 ≤ x) (hx' : x < 18446744073709551616) (hy : 0 ≤ y) (hy' : y < 18446744073709551616) : alike (bits .xor .u64 x y) 0 = alike x y := by
  rw [u64_xor x y hx hx' hy hy']
  obtain ⟨a, rfl⟩ := Int.eq_ofNat_of_zero_le hx
  obtain ⟨b, rfl⟩ := Int.eq_ofNat_of_zero_le hy
  simp only [Int.toNat_natCast]
  unfold alike
  by_cases e : a = b
  · subst e; simp
  · have n : a ^^^ b ≠ 0 := fun h => e (by rw [← Nat.xor_zero a, ← Nat.xor_self b, ← Nat.xor_assoc, h, Nat.zero_xor])
    rw [if_neg (by omega), if_neg (by omega)]
theorem same_eq (x y : Int) (hx : 0 ≤ x) (hx' : x < 18446744073709551616) (hy : 0 ≤ y) (hy' : y < 18446744073709551616) :
    bits .xor .u64 1 (bits .or .u64 (bits .xor .u64 x y) (IntKind.u64.wrap (-bits .xor .u64 x y)) / 9223372036854775808) = alike x y := by
  have r := xor_u64_range x y hx hx' hy hy'
  rw [zero_flag _ r.1 r.2, xor_zero x y hx hx' hy hy']
theorem and_one (c : Int) (h : 0 ≤ c) (h' : c < 18446744073709551616) : bits .and .u64 c 1 = c % 2 := by
  rw [u64_and c 1 h h' (by omega) (by omega)]
  have : (1 : Int).toNat = 1 := rfl
  rw [this, Nat.and_one_is_mod]
  omega
theorem pick_eq (c x y : Int) (hc : 0 ≤ c) (hc' : c < 18446744073709551616) (hx : 0 ≤ x) (hx' : x < 18446744073709551616) (hy : 0 ≤ y) (hy' : y < 18446744073709551616) :
    bits .xor .u64 y (bits .and .u64 (IntKind.u64.wrap (-bits .and .u64 c 1)) (bits .xor .u64 x y)) = pickI c x y := by
  have r := xor_u64_range x y hx hx' hy hy'
  rw [and_one c hc hc', IntKind.wrap_u64]
  unfold pickI
  by_cases o : c % 2 = 1
  · rw [if_pos o, o]
    have e : (-1 : Int) % 18446744073709551616 = 18446744073709551615 := rfl
    rw [e, u64_and _ _ (by omega) (by omega) r.1 r.2, u64_xor x y hx hx' hy hy']
    have f : (18446744073709551615 : Int).toNat = 18446744073709551615 := rfl
    have g : x.toNat ^^^ y.toNat < 2 ^ 64 := Nat.xor_lt_two_pow (by omega) (by omega)
    rw [f, Int.toNat_natCast, Nat.and_comm, show (18446744073709551615 : Nat) = 2 ^ 64 - 1 from rfl, Nat.and_two_pow_sub_one_eq_mod, Nat.mod_eq_of_lt g, u64_xor y _ hy hy' (by omega) (by omega), Int.toNat_natCast]
    rw [Nat.xor_comm x.toNat, ← Nat.xor_assoc, Nat.xor_self, Nat.zero_xor]
    omega
  · have z : c % 2 = 0 := by omega
    rw [if_neg o, z]
    have e : (-0 : Int) % 18446744073709551616 = 0 := rfl
    have f : (0 : Int).toNat = 0 := rfl
    rw [e, u64_and _ _ (by omega) (by omega) r.1 r.2, f, Nat.zero_and, u64_xor y _ hy hy' (by omega) (by omega)]
    simp
    omega
end Go.Proofs.YtlinmcgmkpkpaaaDoor.Bit
namespace Go.Proofs.YtlinmcgmkpkpaaaDoor.Ct
open Go.RowKit Go.Proofs.YtlinmcgmkpkpaaaDoor.Bit
theorem sub64_nat (x y : Nat) (w : World) : (callFunc 108 #[.int .u64 (x : Int), .int .u64 (y : Int), .int .u64 0]).run Tryd.prog w =
    .ok (.value (.tuple #[.int .u64 (((x + 18446744073709551616 - y - 0) % 18446744073709551616 : Nat) : Int), .int .u64 ((if x < y + 0 then 1 else 0 : Nat) : Int)])) w := by
  kernel_rfl
theorem sub64_0 (x y : Int) (hx : 0 ≤ x) (hy : 0 ≤ y) (hy' : y < 18446744073709551616) (w : World) : (callFunc 108 #[.int .u64 x, .int .u64 y, .int .u64 0]).run Tryd.prog w =
    .ok (.value (.tuple #[.int .u64 ((x - y) % 18446744073709551616), .int .u64 (low x y)])) w := by
  obtain ⟨x, rfl⟩ := Int.eq_ofNat_of_zero_le hx
  obtain ⟨y, rfl⟩ := Int.eq_ofNat_of_zero_le hy
  have e1 : (((x + 18446744073709551616 - y - 0) % 18446744073709551616 : Nat) : Int) = ((x : Int) - y) % 18446744073709551616 := by omega
  have e2 : ((if x < y + 0 then 1 else 0 : Nat) : Int) = low x y := by unfold low; split <;> split <;> omega
  rw [← e1, ← e2]
  exact sub64_nat x y w
theorem less_any (x y : Int) (hx : 0 ≤ x) (hy : 0 ≤ y) (hy' : y < 18446744073709551616) (w : World) :
    Calls Tryd.prog 107 #[.int .u64 x, .int .u64 y] w fun e w' => e = .returned (.int .u64 (low x y)) ∧ w = w' := by
  go_enter Tryd.func107, Tryd.ntmps107
  go_wp2_with (simp only [sub64_0 x y hx hy hy'])
  go_ret
  exact ⟨rfl, rfl⟩
theorem ret_int {k : IntKind} {a b : Int} (h : a = b) : Ending.returned (.int k a) = .returned (.int k b) := by rw [h]
theorem below_any (x y : Int) (hx : -9223372036854775808 ≤ x) (hx' : x ≤ 9223372036854775807) (hy : -9223372036854775808 ≤ y) (hy' : y ≤ 9223372036854775807) (w : World) :
    Calls Tryd.prog 102 #[.int .i64 x, .int .i64 y] w fun e w' => e = .returned (.int .u64 (low x y)) ∧ w = w' := by
  have rx := xor_u64_range (IntKind.u64.wrap x) 9223372036854775808 (by rw [IntKind.wrap_u64]; omega) (by rw [IntKind.wrap_u64]; omega) (by omega) (by omega)
  have ry := xor_u64_range (IntKind.u64.wrap y) 9223372036854775808 (by rw [IntKind.wrap_u64]; omega) (by rw [IntKind.wrap_u64]; omega) (by omega) (by omega)
  go_enter Tryd.func102, Tryd.ntmps102
  go_wp2_with fail
  refine (less_any _ _ rx.1 ry.1 ry.2 _).mono ?_
  rintro e w' ⟨rfl, rfl⟩
  go_wp2_with fail
  go_ret
  exact ⟨ret_int (below_eq x y hx hx' hy hy'), rfl⟩
theorem same_any (x y : Int) (hx : 0 ≤ x) (hx' : x < 18446744073709551616) (hy : 0 ≤ y) (hy' : y < 18446744073709551616) (w : World) :
    Calls Tryd.prog 106 #[.int .u64 x, .int .u64 y] w fun e w' => e = .returned (.int .u64 (alike x y)) ∧ w = w' := by
  go_enter Tryd.func106, Tryd.ntmps106
  go_wp2_with fail
  go_ret
  exact ⟨ret_int (same_eq x y hx hx' hy hy'), rfl⟩
theorem pick_any (c x y : Int) (hc : 0 ≤ c) (hc' : c < 18446744073709551616) (hx : 0 ≤ x) (hx' : x < 18446744073709551616) (hy : 0 ≤ y) (hy' : y < 18446744073709551616) (w : World) :
    Calls Tryd.prog 96 #[.int .u64 c, .int .u64 x, .int .u64 y] w fun e w' => e = .returned (.int .u64 (pickI c x y)) ∧ w = w' := by
  go_enter Tryd.func96, Tryd.ntmps96
  go_wp2_with fail
  go_ret
  exact ⟨ret_int (pick_eq c x y hc hc' hx hx' hy hy'), rfl⟩
def oneI (b : Bool) : Int := if b = true then 1 else 0
theorem oneI_low (x y : Int) : oneI (decide (x < y)) = low x y := by unfold oneI low; simp
theorem oneI_alike (x y : Int) : oneI (x == y) = alike x y := by unfold oneI alike; simp
end Go.Proofs.YtlinmcgmkpkpaaaDoor.Ct
namespace Go.Proofs.YtlinmcgmkpkpaaaDoor.Mem
open Go.RowKit
theorem ret_int {k : IntKind} {a b : Int} (h : a = b) : Ending.returned (.int k a) = .returned (.int k b) := by rw [h]
theorem ret_bool {a b : Bool} (h : a = b) : Ending.returned (.bool a) = .returned (.bool b) := by rw [h]
theorem below_drewN {B : Nat} {a w : World} (h : Below B a w) (n : Nat) : Below B a (w.drewN n) := ⟨h.os, h.tape, h.output, h.size, h.block⟩
def Ints (w : World) (k : IntKind) (B : Nat) (A : Option Addr) (n : Nat) (zs : List Int) : Prop :=
  zs.length = n ∧ (∀ z ∈ zs, (Lit.int k z).wf = true) ∧ (0 < n → ∃ b off, A = some ⟨b, off, none⟩ ∧ b < B ∧ ∀ i, i < n → w.cell? ⟨b, off + i, none⟩ = some (.int k (zs.getD i 0)))
section
variable {w w' : World} {k : IntKind} {B B' n : Nat} {A : Option Addr} {zs : List Int}
theorem Ints.nil (w : World) (k : IntKind) (B : Nat) (A : Option Addr) : Ints w k B A 0 [] := ⟨rfl, by simp, fun h => absurd h (by omega)⟩
theorem Ints.keep (h : Ints w k B A n zs) (hk : ∀ p : Addr, p.block < B → w'.cell? p = w.cell? p) : Ints w' k B A n zs :=
  ⟨h.1, h.2.1, fun hn => by
    obtain ⟨b, off, e, hb, hc⟩ := h.2.2 hn
    exact ⟨b, off, e, hb, fun i hi => (hk ⟨b, off + i, none⟩ hb).trans (hc i hi)⟩⟩
theorem Ints.more (h : Ints w k B A n zs) (hB : B ≤ B') : Ints w k B' A n zs :=
  ⟨h.1, h.2.1, fun hn => by
    obtain ⟨b, off, e, hb, hc⟩ := h.2.2 hn
    exact ⟨b, off, e, by omega, hc⟩⟩
theorem Ints.below (h : Ints w k B A n zs) (hb : Below B w w') : Ints w' k B A n zs := h.keep fun _ hp => hb.cell hp
theorem Ints.drew (h : Ints w k B A n zs) : Ints w.drew k B A n zs := h
theorem Ints.drewN (h : Ints w k B A n zs) (m : Nat) : Ints (w.drewN m) k B A n zs := h
theorem Ints.alloc (h : Ints w k B A n zs) (hB : B ≤ w.heap.size) (o : Obj) : Ints (w.alloc o) k B A n zs := h.keep fun p hp => World.cell?_alloc_lt w o p (by omega)
theorem Ints.setCell (h : Ints w k B A n zs) {p : Addr} (hB : B ≤ p.block) (u : Value) : Ints (w.setCell p u) k B A n zs :=
  h.keep fun q hq => World.cell?_setCell_other w p q u (fun e => by subst e; omega)
theorem Ints.range (h : Ints w k B A n zs) {i : Nat} (hi : i < n) : (Lit.int k (zs.getD i 0)).wf = true := by
  have hl : i < zs.length := by have := h.1; omega
  rw [List.getD_eq_getElem?_getD, List.getElem?_eq_getElem hl]
  exact h.2.1 _ (List.getElem_mem hl)
theorem Ints.at_ (h : Ints w k B A n zs) {i : Nat} (hi : i < n) : ∃ b off, A = some ⟨b, off, none⟩ ∧ b < B ∧ w.cell? ⟨b, off + i, none⟩ = some (.int k (zs.getD i 0)) := by
  obtain ⟨b, off, e, hb, hc⟩ := h.2.2 (by omega)
  exact ⟨b, off, e, hb, hc i hi⟩
end
theorem wf_u64 {z : Int} (h : (Lit.int .u64 z).wf = true) : 0 ≤ z ∧ z ≤ 18446744073709551615 := by simpa [Lit.wf, IntKind.min, IntKind.max, IntKind.signed, IntKind.bits] using h
theorem wf_i64 {z : Int} (h : (Lit.int .i64 z).wf = true) : -9223372036854775808 ≤ z ∧ z ≤ 9223372036854775807 := by simpa [Lit.wf, IntKind.min, IntKind.max, IntKind.signed, IntKind.bits] using h
end Go.Proofs.YtlinmcgmkpkpaaaDoor.Mem
namespace Go.Proofs.YtlinmcgmkpkpaaaDoor.Mem
open Go.RowKit
def Own (w : World) (base : Nat) (t : TypeId) (k : IntKind) (v : Value) (zs : List Int) : Prop :=
  (∀ z ∈ zs, (Lit.int k z).wf = true) ∧ w.ownsRow base t 1 v zs.length (zs.map (Value.int k))
section
variable {w w' : World} {base : Nat} {t : TypeId} {k : IntKind} {v : Value} {zs : List Int}
theorem Own.nil (w : World) (base : Nat) (t : TypeId) (k : IntKind) : Own w base t k (.slice none 0 0) [] := ⟨by simp, World.ownsRow_nil _ _ _ _⟩
theorem Own.drewN (h : Own w base t k v zs) (n : Nat) : Own (w.drewN n) base t k v zs := h
theorem Own.alloc (h : Own w base t k v zs) (o : Obj) : Own (w.alloc o) base t k v zs := ⟨h.1, h.2.alloc o⟩
theorem Own.kept (h : Own w base t k v zs) {row : Option Nat} (hg : w.grownBy w' row) (hne : v.ownBlock = none ∨ v.ownBlock ≠ row) : Own w' base t k v zs := ⟨h.1, h.2.kept hg hne⟩
theorem grown_of_below (h : Below w.heap.size w w') (row : Option Nat) : w.grownBy w' row := ⟨h.os, h.tape, h.output, h.size, fun i hi _ => h.block i hi⟩
theorem Own.below (h : Own w base t k v zs) (hb : Below w.heap.size w w') : Own w' base t k v zs :=
  h.kept (grown_of_below hb none) (by cases v.ownBlock <;> simp)
theorem Own.less (h : Own w base t k v zs) {b : Nat} (hb : b ≤ base) : Own w b t k v zs := by
  refine ⟨h.1, h.2.1, ?_⟩
  rcases h.2.2 with hn | ⟨g, cap, cur, e, hg, r⟩
  · exact .inl hn
  · exact .inr ⟨g, cap, cur, e, by omega, r⟩
theorem Own.form (h : Own w base t k v zs) : ∃ A c, v = .slice A zs.length c ∧ zs.length ≤ c ∧ c ≤ maxLen ∧ Ints w k w.heap.size A zs.length zs := by
  rcases h.2.2 with ⟨rfl, hn⟩ | ⟨g, cap, cur, rfl, hb, hg, hnc, hcm, hcs, ht⟩
  · have : zs = [] := List.eq_nil_of_length_eq_zero hn
    subst this
    exact ⟨none, 0, rfl, Nat.le_refl _, by simp [maxLen], Ints.nil _ _ _ _⟩
  · refine ⟨_, cap, rfl, hnc, hcm, rfl, h.1, fun _ => ⟨g, 0, rfl, (Array.getElem?_eq_some_iff.1 hg).1, fun i hi => ?_⟩⟩
    have hc := h.2.cells (g := g) rfl i (.int k (zs.getD i 0)) (by simp [List.getD_eq_getElem?_getD, hi])
    have e : (Addr.mk g 0 none).add i = ⟨g, 0 + i, none⟩ := by unfold Addr.add; split <;> simp_all
    rwa [e] at hc
theorem Own.ints {A : Option Addr} {n c : Nat} (h : Own w base t k (.slice A n c) zs) (hl : zs.length = n) : Ints w k w.heap.size A n zs := by
  obtain ⟨A', c', e, _, _, hi⟩ := h.form
  injection e with e1 e2 _
  subst e1
  rw [hl] at hi
  exact hi
theorem Own.at_ (h : Own w base t k v zs) (hn : 0 < zs.length) : ∃ g c, v = .slice (some ⟨g, 0, none⟩) zs.length c ∧ base ≤ g ∧ g < w.heap.size ∧ zs.length ≤ c ∧ c ≤ maxLen ∧
    (∀ i, i < zs.length → w.cell? ⟨g, i, none⟩ = some (.int k (zs.getD i 0))) ∧ (∀ i, w.frozen? ⟨g, i, none⟩ = false) := by
  rcases h.2.2 with ⟨rfl, hn'⟩ | ⟨g, cap, cur, rfl, hb, hg, hnc, hcm, hcs, ht⟩
  · omega
  · refine ⟨g, cap, rfl, hb, (Array.getElem?_eq_some_iff.1 hg).1, hnc, hcm, fun i hi => ?_, fun i => by simp [World.frozen?, hg]⟩
    have hc := h.2.cells (g := g) rfl i (.int k (zs.getD i 0)) (by simp [List.getD_eq_getElem?_getD, hi])
    have e : (Addr.mk g 0 none).add i = ⟨g, i, none⟩ := by unfold Addr.add; split <;> simp_all
    rwa [e] at hc
theorem Own.set {g c : Nat} (h : Own w base t k (.slice (some ⟨g, 0, none⟩) zs.length c) zs) (i : Nat) {z : Int} (hz : (Lit.int k z).wf = true) :
    Own (w.setCell ⟨g, i, none⟩ (.int k z)) base t k (.slice (some ⟨g, 0, none⟩) zs.length c) (zs.set i z) := by
  refine ⟨fun y hy => ?_, by simp, ?_⟩
  · rcases List.mem_or_eq_of_mem_set hy with h1 | h1
    · exact h.1 y h1
    · rw [h1]; exact hz
  · rcases h.2.2 with ⟨e, _⟩ | ⟨g', cap, cur, e, hb, hg, hnc, hcm, hcs, ht⟩
    · cases e
    · injection e with e1 _ e3
      injection e1 with e1
      injection e1 with e1
      subst e1
      subst e3
      refine .inr ⟨g, c, cur.setIfInBounds i (.int k z), by simp, hb, ?_, by simpa using hnc, hcm, by simpa using hcs, ?_⟩
      · simp [World.setCell, Array.getElem?_modify, hg]
      · rw [Array.toList_setIfInBounds, List.take_set, List.length_set]
        rw [ht]
        simp [List.map_set]
theorem grown_setCell (w : World) (g i : Nat) (u : Value) : w.grownBy (w.setCell ⟨g, i, none⟩ u) (some g) :=
  ⟨rfl, rfl, rfl, by simp [World.setCell], fun j _ hne => Below.heap_setCell w _ u j (fun e => hne (by rw [e]))⟩
theorem Below.of_grown {B : Nat} {a : World} (h : Below B a w) {row : Option Nat} (hg : w.grownBy w' row) (hB : B ≤ w.heap.size) (hr : ∀ g, row = some g → B ≤ g) : Below B a w' := h.grown hg hB hr
end
section
variable {P : Program} (w : World) {ops : Array Oper} {rest : List Oper} {o : Oper} {a : Act}
end
def Row (w : World) (g : Nat) (t : TypeId) (k : IntKind) (zs : List Int) : Prop := (∀ z ∈ zs, (Lit.int k z).wf = true) ∧ w.heap[g]? = some (.cells (zs.map (Value.int k)).toArray t (0, 0))
section
variable {w w' : World} {g : Nat} {t : TypeId} {k : IntKind} {zs : List Int}
theorem Row.lt (h : Row w g t k zs) : g < w.heap.size := (Array.getElem?_eq_some_iff.1 h.2).1
theorem Row.cell (h : Row w g t k zs) {i : Nat} (hi : i < zs.length) : w.cell? ⟨g, i, none⟩ = some (.int k (zs.getD i 0)) := by
  rw [cell_of_row w g i _ t (0, 0) h.2]
  simp [List.getD_eq_getElem?_getD, hi]
theorem Row.frozen (h : Row w g t k zs) (i : Nat) : w.frozen? ⟨g, i, none⟩ = false := by simp [World.frozen?, h.2]
theorem Row.below {B : Nat} (h : Row w g t k zs) (hb : Below B w w') (hg : g < B) : Row w' g t k zs := ⟨h.1, (hb.block g hg).trans h.2⟩
theorem Row.grown {row : Option Nat} (h : Row w g t k zs) (hb : w.grownBy w' row) (hg : some g ≠ row) : Row w' g t k zs := ⟨h.1, (hb.block g h.lt hg).trans h.2⟩
theorem Row.ints (h : Row w g t k zs) {n : Nat} (hn : n ≤ zs.length) : Ints w k w.heap.size (some ⟨g, 0, none⟩) n (zs.take n) :=
  ⟨by simp; omega, fun z hz => h.1 z (List.mem_of_mem_take hz), fun _ => ⟨g, 0, rfl, h.lt, fun i hi => by
    rw [Nat.zero_add, h.cell (by omega)]
    simp [List.getD_eq_getElem?_getD, hi]⟩⟩
theorem Row.own (h : Row w g t k zs) {base : Nat} (hb : base ≤ g) {n : Nat} (hn : n ≤ zs.length) (hm : zs.length ≤ maxLen) : Own w base t k (.slice (some ⟨g, 0, none⟩) n zs.length) (zs.take n) := by
  refine ⟨fun z hz => h.1 z (List.mem_of_mem_take hz), by simp, .inr ⟨g, zs.length, _, ?_, hb, h.2, ?_, hm, by simp, ?_⟩⟩
  · congr 1; simp; omega
  · simp; omega
  · simp only [Nat.mul_one]; rw [List.length_take, Nat.min_eq_left hn, List.map_take]
end
def Fill (w : World) (g : Nat) (t : TypeId) (cap : Nat) (L : List Value) (k : Nat) : Prop :=
  ∃ cur : Array Value, w.heap[g]? = some (.cells cur t (0, 0)) ∧ cur.size = cap ∧ cur.toList.take k = L.take k
section
variable {w w' : World} {g : Nat} {t : TypeId} {cap : Nat} {L : List Value} {k : Nat}
theorem Fill.new (w : World) (t : TypeId) (cur : Array Value) (L : List Value) : Fill (w.alloc (.cells cur t)) w.heap.size t cur.size L 0 := ⟨cur, heap_alloc_new w _, rfl, by simp⟩
theorem Fill.lt (h : Fill w g t cap L k) : g < w.heap.size := by obtain ⟨cur, h, _⟩ := h; exact (Array.getElem?_eq_some_iff.1 h).1
theorem Fill.frozen (h : Fill w g t cap L k) (i : Nat) : w.frozen? ⟨g, i, none⟩ = false := by obtain ⟨cur, h, _⟩ := h; simp [World.frozen?, h]
theorem Fill.cell (h : Fill w g t cap L k) {i : Nat} (hi : i < cap) : ∃ u, w.cell? ⟨g, i, none⟩ = some u := by
  obtain ⟨cur, h, hs, _⟩ := h
  rw [cell_of_row w g i _ t (0, 0) h]
  exact ⟨cur[i], Array.getElem?_eq_getElem (by omega)⟩
theorem Fill.read (h : Fill w g t cap L k) {i : Nat} (hi : i < k) {u : Value} (hu : L[i]? = some u) : w.cell? ⟨g, i, none⟩ = some u := by
  obtain ⟨cur, h, hs, e⟩ := h
  rw [cell_of_row w g i _ t (0, 0) h]
  have := congrArg (fun l => l[i]?) e
  simp only [List.getElem?_take, hi, if_true] at this
  rw [hu] at this
  simpa using this
theorem Fill.step (h : Fill w g t cap L k) {u : Value} (hu : L[k]? = some u) (hk : k < cap) : Fill (w.setCell ⟨g, k, none⟩ u) g t cap L (k + 1) := by
  obtain ⟨cur, h, hs, e⟩ := h
  refine ⟨cur.setIfInBounds k u, by simp [World.setCell, Array.getElem?_modify, h], by simpa using hs, ?_⟩
  rw [Array.toList_setIfInBounds, List.take_add_one, List.take_add_one, hu, List.take_set, List.getElem?_set]
  simp only [Array.length_toList, hs, hk, if_true]
  rw [List.set_eq_of_length_le (by simp; omega), e]
theorem Fill.keep (h : Fill w g t cap L k) (hb : w'.heap[g]? = w.heap[g]?) : Fill w' g t cap L k := by
  obtain ⟨cur, h, hs, e⟩ := h
  exact ⟨cur, hb.trans h, hs, e⟩
theorem Fill.done (h : Fill w g t cap L k) (hk : cap ≤ k) (hl : L.length = cap) : w.heap[g]? = some (.cells L.toArray t (0, 0)) := by
  obtain ⟨cur, h, hs, e⟩ := h
  rw [List.take_of_length_le (by simp; omega), List.take_of_length_le (by omega)] at e
  rw [h, ← e]
theorem Own.fill {base n : Nat} {kd : IntKind} {zs : List Int} (h : Own w base t kd (.slice (some ⟨g, 0, none⟩) n cap) zs) {M : List Value} (hM : M.take n = zs.map (Value.int kd)) : Fill w g t cap M n := by
  rcases h.2.2 with ⟨e, _⟩ | ⟨g', cap', cur, e, hb, hg, hnc, hcm, hcs, ht⟩
  · cases e
  · injection e with e1 e2 e3
    injection e1 with e1
    injection e1 with e1
    subst e1
    subst e3
    refine ⟨cur, hg, by simpa using hcs, ?_⟩
    rw [hM, ← ht, e2, Nat.mul_one]
end
end Go.Proofs.YtlinmcgmkpkpaaaDoor.Mem
namespace Go.Proofs.YtlinmcgmkpkpaaaDoor.Mem
open Go.RowKit
def arr (k : IntKind) (zs : List Int) : Array Value := (zs.map (Value.int k)).toArray
theorem arr_size (k : IntKind) (zs : List Int) : (arr k zs).size = zs.length := by simp [arr]
theorem arr_get (k : IntKind) (zs : List Int) {i : Nat} (h : i < zs.length) : (arr k zs)[i]? = some (.int k (zs.getD i 0)) := by
  simp [arr, List.getD_eq_getElem?_getD, h]
theorem arr_one (k : IntKind) (zs : List Int) : (arr k zs).all (·.oneCell') = true := by
  rw [Array.all_eq_true_iff_forall_mem]
  intro v hv
  simp only [arr, List.mem_toArray, List.mem_map] at hv
  obtain ⟨z, _, rfl⟩ := hv
  rfl
theorem run_index_arr {P : Program} (t e : TypeId) (n : Nat) (k : IntKind) (zs : List Int) (i : Nat) (w : World) (ht : P.underlying t = some (.array n e)) (hs : (P.info? e).map (·.size) = some 1) (hp : P.plainKey e = true)
    (hn : zs.length = n) (hi : i < n) : (Instr.index t (.agg (arr k zs)) (.int .i64 (i : Int))).run P w = .ok (.int k (zs.getD i 0)) w := by
  have h1 : (0 : Int) ≤ (i : Int) ∧ (i : Int) < (n : Int) := by omega
  have hz : (sizeOf e).run P w = .ok 1 w := by
    cases hq : P.info? e with
    | none => simp [hq] at hs
    | some q => simp [hq] at hs; simp [sizeOf, typeInfo, hq, hs]
  have hpt := run_part_plain (P := P) w hp (xs := arr k zs) (off := i) (arr_get k zs (by omega))
  simp [Instr.index, run_underlying ht, asIntOf, h1, hz, hpt, Sem.run_bind, Result.andThen]
  omega
section
variable {w w' : World} {g : Nat} {t : TypeId} {k : IntKind} {zs : List Int}
theorem Row.set (h : Row w g t k zs) (i : Nat) {z : Int} (hz : (Lit.int k z).wf = true) : Row (w.setCell ⟨g, i, none⟩ (.int k z)) g t k (zs.set i z) := by
  refine ⟨fun y hy => ?_, ?_⟩
  · rcases List.mem_or_eq_of_mem_set hy with h1 | h1
    · exact h.1 y h1
    · rw [h1]; exact hz
  · have hg := h.2
    simp only [World.setCell, Array.getElem?_modify, hg, if_true, Option.map_some, Obj.cells.injEq, Option.some.injEq]
    refine ⟨?_, trivial, trivial⟩
    rw [List.map_set]
    simp
theorem Row.other (h : Row w g t k zs) {p : Addr} (hp : p.block ≠ g) (v : Value) : Row (w.setCell p v) g t k zs := ⟨h.1, (heap_setCell_other w p g v (fun e => hp e.symm)).trans h.2⟩
theorem Row.alloc (h : Row w g t k zs) (o : Obj) : Row (w.alloc o) g t k zs := ⟨h.1, (Below.heap_alloc w o g h.lt).trans h.2⟩
theorem Row.drewN (h : Row w g t k zs) (m : Nat) : Row (w.drewN m) g t k zs := h
theorem Row.new (w : World) (t : TypeId) (hz : ∀ z ∈ zs, (Lit.int k z).wf = true) : Row (w.alloc (.cells (arr k zs) t)) w.heap.size t k zs := ⟨hz, heap_alloc_new w _⟩
theorem Row.setRow {old : List Int} (h : Row w g t k old) (hz : ∀ z ∈ zs, (Lit.int k z).wf = true) : Row (w.setRow g (arr k zs)) g t k zs := ⟨hz, setRow_heap w g _ _ t (0, 0) h.2⟩
theorem Row.setRow_other (h : Row w g t k zs) {g' : Nat} (hg : g' ≠ g) (cs : Array Value) : Row (w.setRow g' cs) g t k zs := ⟨h.1, (Go.setRow_other w g' g cs hg.symm).trans h.2⟩
theorem grown_setRow (w : World) (g : Nat) (cs : Array Value) : w.grownBy (w.setRow g cs) (some g) :=
  ⟨rfl, rfl, rfl, by simp, fun j _ hne => setRow_other w g j cs (fun e => hne (by rw [e]))⟩
end
section
variable {P : Program} {ops : Array Oper} {rest : List Oper} {o : Oper} {a : Act} {w : World} {Q : Exit → Act → World → Prop}
theorem wpList_load_Row (hgd : o.guard = none) (ty : TypeId) (x : Operand) (ho : o.op = .load ty x) (g : Nat) (hx : a.eval x = .pointer (some ⟨g, 0, none⟩)) (t : TypeId) (k : IntKind) (zs : List Int) (hr : Row w g t k zs)
    (n : Nat) (e : TypeId) (hu : P.underlying ty = some (.array n e)) (hi : (P.info? ty).map (·.size) = some n) (hn : zs.length = n)
    (h : wpList P ops Q rest (a.put o.dst (.agg (arr k zs))) w) : wpList P ops Q (o :: rest) a w :=
  wpList_load_row hgd ty x ho g hx t (arr k zs) (0, 0) _ hr.2 hu rfl (by rw [hi, arr_size, hn]) h
theorem wpList_store_Row (hgd : o.guard = none) (ty : TypeId) (x y : Operand) (ho : o.op = .store ty x y) (g : Nat) (hx : a.eval x = .pointer (some ⟨g, 0, none⟩)) (t : TypeId) (k : IntKind) (old zs : List Int) (hy : a.eval y = .agg (arr k zs))
    (hr : Row w g t k old) (n : Nat) (hi : (P.info? ty).map (·.size) = some n) (hn : zs.length = n) (ho' : old.length = n)
    (h : wpList P ops Q rest (a.put o.dst undef) (w.setRow g (arr k zs))) : wpList P ops Q (o :: rest) a w :=
  wpList_store_row hgd ty x y ho g (arr k zs) hx hy t _ hr.2 (by rw [hi, arr_size, hn]) (by simp [arr, ho', hn]) (arr_one k zs) h
end
theorem results_Row {P : Program} {fn : Func} {p : Tmp} {ty : TypeId} (h : fn.results = #[.cell p ty]) (tmps : Array Value) (w : World) (g : Nat) (t : TypeId) (k : IntKind) (zs : List Int) (hp : tmps.getD p undef = .pointer (some ⟨g, 0, none⟩))
    (hr : Row w g t k zs) (n : Nat) (e : TypeId) (hu : P.underlying ty = some (.array n e)) (hi : (P.info? ty).map (·.size) = some n) (hn : zs.length = n) : (results fn tmps).run P w = .ok (.agg (arr k zs)) w :=
  results_cell_row h tmps w g t (arr k zs) (0, 0) _ hp hr.2 hu rfl (by rw [hi, arr_size, hn])
end Go.Proofs.YtlinmcgmkpkpaaaDoor.Mem
namespace Go
namespace Proofs.YtlinmcgmkpkpaaaDoor.Mem
end Proofs.YtlinmcgmkpkpaaaDoor.Mem
end Go
namespace Go.Proofs.YtlinmcgmkpkpaaaDoor.Mem
open Go.RowKit
def Vals (w : World) (B : Nat) (A : Option Addr) (n : Nat) (vs : List Value) : Prop :=
  vs.length = n ∧ (∀ v ∈ vs, v.oneCell' = true) ∧ (0 < n → ∃ b off, A = some ⟨b, off, none⟩ ∧ b < B ∧ ∀ i, i < n → w.cell? ⟨b, off + i, none⟩ = some (vs.getD i undef))
section
variable {w w' : World} {B B' n : Nat} {A : Option Addr} {vs : List Value}
theorem Vals.nil (w : World) (B : Nat) (A : Option Addr) : Vals w B A 0 [] := ⟨rfl, by simp, fun h => absurd h (by omega)⟩
theorem Vals.keep (h : Vals w B A n vs) (hk : ∀ p : Addr, p.block < B → w'.cell? p = w.cell? p) : Vals w' B A n vs :=
  ⟨h.1, h.2.1, fun hn => by
    obtain ⟨b, off, e, hb, hc⟩ := h.2.2 hn
    exact ⟨b, off, e, hb, fun i hi => (hk ⟨b, off + i, none⟩ hb).trans (hc i hi)⟩⟩
theorem Vals.more (h : Vals w B A n vs) (hB : B ≤ B') : Vals w B' A n vs :=
  ⟨h.1, h.2.1, fun hn => by
    obtain ⟨b, off, e, hb, hc⟩ := h.2.2 hn
    exact ⟨b, off, e, by omega, hc⟩⟩
theorem Vals.below (h : Vals w B A n vs) (hb : Below B w w') : Vals w' B A n vs := h.keep fun _ hp => hb.cell hp
theorem Vals.drewN (h : Vals w B A n vs) (m : Nat) : Vals (w.drewN m) B A n vs := h
theorem Vals.alloc (h : Vals w B A n vs) (hB : B ≤ w.heap.size) (o : Obj) : Vals (w.alloc o) B A n vs := h.keep fun p hp => World.cell?_alloc_lt w o p (by omega)
theorem Vals.at_ (h : Vals w B A n vs) {i : Nat} (hi : i < n) : ∃ b off, A = some ⟨b, off, none⟩ ∧ b < B ∧ w.cell? ⟨b, off + i, none⟩ = some (vs.getD i undef) := by
  obtain ⟨b, off, e, hb, hc⟩ := h.2.2 (by omega)
  exact ⟨b, off, e, hb, hc i hi⟩
end
theorem Vals.new (w : World) (t : TypeId) (vs : List Value) (h1 : ∀ v ∈ vs, v.oneCell' = true) : Vals (w.alloc (.cells vs.toArray t)) (w.heap.size + 1) (some ⟨w.heap.size, 0, none⟩) vs.length vs :=
  ⟨rfl, h1, fun hn => ⟨w.heap.size, 0, rfl, by omega, fun i hi => by
    rw [cell_of_row _ _ _ _ t (0, 0) (heap_alloc_new w _)]
    simp [List.getD_eq_getElem?_getD, hi]⟩⟩
end Go.Proofs.YtlinmcgmkpkpaaaDoor.Mem
namespace Go.Proofs.YtlinmcgmkpkpaaaDoor.Mem
open Go.RowKit
end Go.Proofs.YtlinmcgmkpkpaaaDoor.Mem
namespace Go.Proofs.YtlinmcgmkpkpaaaDoor
theorem Z1 {α : Type} (xs : List α) (i : Nat) (a : α) : xs.toArray.setIfInBounds i a = (xs.set i a).toArray := List.setIfInBounds_toArray ..
theorem Z2 {α : Type} (x a : α) (xs : List α) : (x :: xs).set 0 a = a :: xs := rfl
theorem Z3 {α : Type} (x a : α) (xs : List α) (n : Nat) : (x :: xs).set (n + 1) a = x :: xs.set n a := rfl
end Go.Proofs.YtlinmcgmkpkpaaaDoor
namespace Go.Proofs.YtlinmcgmkpkpaaaDoor.Held
open Go.RowKit Go.Shelf Mem
section
variable {P : Program} {ops : Array Oper} {Q : Exit → Act → World → Prop} {md : Region.Mode} {S : World → Prop}
theorem take (i : Nat) (d : Option Tmp) {oi : Oper} {v : Value} {fuel : Nat} {listed : Array Bool} {a : Act} {w : World} (hi : ops[i]? = some oi) (hd : oi.dst = d)
    (hs : Region.noSelect ops = true) (hf : Region.free md ops listed i = true) (hr : (Region.ready md ops listed).contains i = true)
    (hQ : ∀ c a w, Q (.panic c) (a.put d v) w → Q (.panic c) a w) (hw : Region.wanted oi (yielded ops a.tmps) = true) (hy : ∀ w, S w → (execOp a.eval oi).run P w = .ok (.value v) w) (hS : S w)
    (h : wpAnyH P md ops Q S fuel (listed.setIfInBounds i true) (a.put d v) w) : wpAnyH P md ops Q S (fuel + 1) listed a w := by
  subst hd
  exact wpAnyH_take hi hs hf hr hQ (.inl ⟨hw, hy⟩) hS h
theorem tk (i : Nat) (d : Option Tmp) {oi : Oper} {v : Value} {fuel : Nat} {listed : Array Bool} {a : Act} {w : World} (hi : ops[i]? = some oi) (hy : ∀ w, S w → (execOp a.eval oi).run P w = .ok (.value v) w) (hS : S w)
    (h : wpAnyH P md ops Q S fuel (listed.setIfInBounds i true) (a.put d v) w) (hd : oi.dst = d := by rfl) (hs : Region.noSelect ops = true := by kernel_rfl) (hf : Region.free md ops listed i = true := by kernel_rfl)
    (hr : (Region.ready md ops listed).contains i = true := by kernel_rfl) (hQ : ∀ c a w, Q (.panic c) (a.put d v) w → Q (.panic c) a w := by intro c a w h; exact h) (hw : Region.wanted oi (yielded ops a.tmps) = true := by rfl) : wpAnyH P md ops Q S (fuel + 1) listed a w :=
  take i d hi hd hs hf hr hQ hw hy hS h
theorem one (i : Nat) {fuel : Nat} {listed : Array Bool} {a : Act} {w : World} (hr : Region.ready md ops listed = [i])
    (h : wpOp P ops Q i (fun a' w' => S w' ∧ wpAnyH P md ops Q S fuel (listed.setIfInBounds i true) a' w') a w) : wpAnyH P md ops Q S (fuel + 1) listed a w := by
  refine wpAnyH_all hr (by simp) fun j hj => ?_
  obtain rfl := List.mem_singleton.1 hj
  exact h
theorem two (i j : Nat) {fuel : Nat} {listed : Array Bool} {a : Act} {w : World} (hr : Region.ready md ops listed = [i, j])
    (h1 : wpOp P ops Q i (fun a' w' => S w' ∧ wpAnyH P md ops Q S fuel (listed.setIfInBounds i true) a' w') a w) (h2 : wpOp P ops Q j (fun a' w' => S w' ∧ wpAnyH P md ops Q S fuel (listed.setIfInBounds j true) a' w') a w) : wpAnyH P md ops Q S (fuel + 1) listed a w := by
  refine wpAnyH_all hr (by simp) fun k hk => ?_
  rcases List.mem_cons.1 hk with rfl | hk
  · exact h1
  · obtain rfl := List.mem_singleton.1 hk
    exact h2
theorem three (i j k : Nat) {fuel : Nat} {listed : Array Bool} {a : Act} {w : World} (hr : Region.ready md ops listed = [i, j, k])
    (h1 : wpOp P ops Q i (fun a' w' => S w' ∧ wpAnyH P md ops Q S fuel (listed.setIfInBounds i true) a' w') a w) (h2 : wpOp P ops Q j (fun a' w' => S w' ∧ wpAnyH P md ops Q S fuel (listed.setIfInBounds j true) a' w') a w)
    (h3 : wpOp P ops Q k (fun a' w' => S w' ∧ wpAnyH P md ops Q S fuel (listed.setIfInBounds k true) a' w') a w) : wpAnyH P md ops Q S (fuel + 1) listed a w := by
  refine wpAnyH_all hr (by simp) fun l hk => ?_
  rcases List.mem_cons.1 hk with rfl | hk
  · exact h1
  · rcases List.mem_cons.1 hk with rfl | hk
    · exact h2
    · obtain rfl := List.mem_singleton.1 hk
      exact h3
theorem op_wp (i : Nat) {o : Oper} {a : Act} {w : World} {K : Act → World → Prop} (hi : ops[i]? = some o) (hw : Region.wanted o (yielded ops a.tmps) = true) (h : Oper.wp P o a w K Q) : wpOp P ops Q i K a w := by
  unfold wpOp
  simp only [hi, hw, if_true]
  exact .inl h
theorem op_call (i : Nat) (d : Option Tmp) {o : Oper} {a : Act} {w : World} {K : Act → World → Prop} (f : FuncId) (vals : Array Value) {xs : Array Operand} {ts : Array TypeId} {R : Ending → World → Prop} (hi : ops[i]? = some o) (hd : o.dst = d) (hw : Region.wanted o (yielded ops a.tmps) = true)
    (ho : o.op = .call { callee := .value (.func f), args := xs, argTypes := ts }) (he : Enters P f) (hv : xs.map a.eval = vals)
    (hc : Calls P f vals w R)
    (h : ∀ e w', R e w' → ∃ v, e = .returned v ∧ K (a.put d v) w') : wpOp P ops Q i K a w := by
  subst hd
  refine op_wp i hi hw ?_
  have hrun : (execOp a.eval o).run P w = .ok (.enter f vals) w := by
    unfold execOp
    simp only [ho, resolve, Act.eval, Deferred.ofValue, Sem.run_bind, Sem.run_pure, Result.andThen_ok, invoke, Array.empty_append, Array.append_empty, hv]
    exact he _ _
  unfold Oper.wp
  rw [hrun, Oper.upon_enter]
  refine hc.mono fun e w' hR => ?_
  obtain ⟨v, rfl, hW⟩ := h e w' hR
  exact hW
theorem op_store_Row (i : Nat) (d : Option Tmp) {o : Oper} {a : Act} {w : World} {K : Act → World → Prop} (ty : TypeId) {x y : Operand} (g : Nat) (t : TypeId) (k : IntKind) (old zs : List Int) (hi : ops[i]? = some o) (hd : o.dst = d) (hw : Region.wanted o (yielded ops a.tmps) = true)
    (ho : o.op = .store ty x y) (hx : a.eval x = .pointer (some ⟨g, 0, none⟩)) (hy : a.eval y = .agg (arr k zs)) (hrow : Row w g t k old) (n : Nat) (hsz : (P.info? ty).map (·.size) = some n) (hn : zs.length = n) (ho' : old.length = n)
    (h : K (a.put d undef) (w.setRow g (arr k zs))) : wpOp P ops Q i K a w := by
  subst hd
  refine op_wp i hi hw ?_
  unfold Oper.wp execOp
  simp only [ho, hx, hy, Instr.storeAt, Instr.sureAddr, Sem.run_bind, Sem.run_pure, Result.andThen_ok, run_storeVar_row w g t ty _ (arr k zs) hrow.2 (by rw [hsz, arr_size, hn]) (by simp [arr, ho', hn]) (arr_one k zs)]
  exact h
variable {ρ : Operand → Value} {o : Oper}
theorem y_move {x : Operand} {v : Value} (ho : o.op = .move x) (hv : ρ x = v) : ∀ w, S w → (execOp ρ o).run P w = .ok (.value v) w := fun w _ => by simp [execOp, ho, hv]
theorem y_assign {x : Operand} {v : Value} (ho : o.op = .assign x) (hv : ρ x = v) : ∀ w, S w → (execOp ρ o).run P w = .ok (.value v) w := fun w _ => by simp [execOp, ho, hv]
theorem y_pick {c x y : Operand} {v : Value} (ho : o.op = .pick c x y) (hc : ρ c = .bool true) (hv : ρ x = v) : ∀ w, S w → (execOp ρ o).run P w = .ok (.value v) w := fun w _ => by simp [execOp, ho, hv, hc, asBool]
theorem y_slice {t : TypeId} {x : Operand} {lo hi mx : Option Operand} {v : Value} (ho : o.op = .slice t x lo hi mx) (hr : ∀ w, (Instr.sliceAt t (ρ x) (lo.map ρ) (hi.map ρ) (mx.map ρ)).run P w = .ok v w) : ∀ w, S w → (execOp ρ o).run P w = .ok (.value v) w :=
  fun w _ => by simp [execOp, ho, hr w]
theorem y_bin {op : BinOp} {t ty : TypeId} {x y : Operand} {u v r : Value} (ho : o.op = .binOp op t x y ty) (hx : ρ x = u) (hy : ρ y = v) (hg : ∀ w, (eqGuard op t x y u v).run P w = .ok () w) (hr : ∀ w, (binOp op t u v).run P w = .ok r w) : ∀ w, S w → (execOp ρ o).run P w = .ok (.value r) w :=
  fun w _ => by simp [execOp, ho, hx, hy, hg w, hr w]
end
section
variable {P : Program} {S : World → Prop} {ρ : Operand → Value} {o : Oper}
theorem y_int {op : BinOp} {t ty : TypeId} {x y : Operand} {k : IntKind} {a b r : Int} (ho : o.op = .binOp op t x y ty) (hx : ρ x = .int k a) (hy : ρ y = .int k b) (hr : ∀ w : World, (binOp op t (.int k a) (.int k b)).run P w = .ok (.int k r) w) :
    ∀ w, S w → (execOp ρ o).run P w = .ok (.value (.int k r)) w := y_bin ho hx hy (fun w => by cases op <;> simp [eqGuard]) hr
theorem run_quo (t : TypeId) (k : IntKind) {a b r : Int} (hb : b ≠ 0) (hr : k.wrap (a.tdiv b) = r) (w : World) : (binOp .quo t (.int k a) (.int k b)).run P w = .ok (.int k r) w := by simp [binOp, Op.intDiv, hb, hr]
theorem run_rem (t : TypeId) (k : IntKind) {a b r : Int} (hb : b ≠ 0) (hr : a.tmod b = r) (w : World) : (binOp .rem t (.int k a) (.int k b)).run P w = .ok (.int k r) w := by simp [binOp, Op.intDiv, hb, hr]
theorem run_sub (t : TypeId) (k : IntKind) {a b r : Int} (hr : k.wrap (a - b) = r) (w : World) : (binOp .sub t (.int k a) (.int k b)).run P w = .ok (.int k r) w := by simp [binOp, Op.intArith, hr]
theorem run_add (t : TypeId) (k : IntKind) {a b r : Int} (hr : k.wrap (a + b) = r) (w : World) : (binOp .add t (.int k a) (.int k b)).run P w = .ok (.int k r) w := by simp [binOp, Op.intArith, hr]
theorem y_convert {src dst : TypeId} {x : Operand} {k k' : IntKind} {a r : Int} (ho : o.op = .convert src dst x) (hx : ρ x = .int k a) (hs : (P.underlying src).isSome = true) (hd : P.underlying dst = some (.int k')) (hr : k'.wrap a = r) :
    ∀ w, S w → (execOp ρ o).run P w = .ok (.value (.int k' r)) w := fun w _ => by
  have h := run_convert_int (P := P) w src dst k a hs
  have e : P.intKind dst = k' := by simp [Program.intKind, hd]
  simp [execOp, ho, hx, h, hd, hr, e]
theorem y_len {t : TypeId} {x : Operand} {A : Option Addr} {n c : Nat} (ho : o.op = .call { callee := .builtin .len, args := #[x], argTypes := #[t] }) (hx : ρ x = .slice A n c) (ht : P.underlying t = some (.slice (P.elem t))) :
    ∀ w, S w → (execOp ρ o).run P w = .ok (.value (.int .i64 (n : Int))) w := fun w _ => by
  have h := run_len_slice (P := P) w t o.type A n c ht
  unfold execOp
  simp [ho, resolve, invoke, builtin, hx, h, goInt]
end
end Go.Proofs.YtlinmcgmkpkpaaaDoor.Held
namespace Go.Proofs.YtlinmcgmkpkpaaaDoor.Range
open Go.RowKit
def Far {β : Type} (B : Nat) (J : β → World → Prop) : Prop :=
  ∀ s W W' row, J s W → W.grownBy W' row → (∀ r, row = some r → B ≤ r) → J s W'
theorem Far.alloc {β : Type} {B : Nat} {J : β → World → Prop} (h : Far B J) {s : β} {W : World} (o : Obj) (hs : J s W) : J s (W.alloc o) :=
  h s W _ none hs (World.grownBy_alloc W o none) (fun r e => by cases e)
theorem Far.put {β : Type} {B : Nat} {J : β → World → Prop} (h : Far B J) {s : β} {W : World} {l : Nat} (o : Obj) (hs : J s W) (hl : B ≤ l) : J s (W.putObj l o) :=
  h s W _ (some l) hs (grownBy_putObj' W l o) (fun r e => by cases e; exact hl)
theorem Far.below {β : Type} {B : Nat} {J : β → World → Prop} (h : Far B J) {s : β} {W W' : World} (hs : J s W) (hb : Below B W W') (hB : B ≤ W.heap.size) (hone : ∃ r, B ≤ r ∧ W.grownBy W' (some r)) : J s W' := by
  obtain ⟨r, hr, hg⟩ := hone
  exact h s W W' (some r) hs hg (fun q e => by cases e; exact hr)
def goesOn (R : World → Prop) : Exit → Act → World → Prop
  | .normal, _, W' => R W'
  | _, _, _ => False
variable {F : Fence} {n : Nat} {P : Program}
end Go.Proofs.YtlinmcgmkpkpaaaDoor.Range
namespace Go.Proofs.YtlinmcgmkpkpaaaDoor.Range
open Go.RowKit
def SeqStop {α : Type} (F : Fence) (n : Nat) (P : Program) (g : Nat) (lb : Array Value) (encs : α → Array Value) (Kp : World → World → Prop) (at_ : Nat → Option α) (w : World) : Prop :=
  ∀ (l : Nat) (J Jx : Nat → World → Prop) (N : Nat) (W : World), Below w.heap.size w W → Far W.heap.size J → Far W.heap.size Jx → (∀ k W1, J k W1 → k < N) →
    (∀ k x W1, J k W1 → at_ k = some x → YieldAt F (n - 1) P l (encs x) W1 fun e W' =>
      (e = .returned (.bool true) ∧ J (k + 1) W' ∧ Kp W1 W') ∨ (e = .returned (.bool false) ∧ Jx (k + 1) W')) →
    J 0 W → CallsIn F n P g (#[.func (.yield l) #[] #[]] ++ lb) W fun e W' => (∃ v, e = .returned v) ∧ ((∃ k, at_ k = none ∧ J k W') ∨ ∃ k, Jx k W')
theorem SeqStop.inRound {α : Type} {F : Fence} {n : Nat} {P : Program} {g : Nat} {lb : Array Value} {encs : α → Array Value} {Kp : World → World → Prop} {at_ : Nat → Option α} {w : World} (l : Nat)
    (h : SeqStop F n P g lb encs Kp at_ w) : SeqStop (F.inRound l) n P g lb encs Kp at_ w := h
def stopPost (R : World → Prop) (X : Code → World → Prop) : Exit → Act → World → Prop
  | .normal, _, W' => R W'
  | .ret, _, W' => X .ret W'
  | .exit id, _, W' => X (.exit id) W'
  | .goto t, _, W' => X (.goto t) W'
  | _, _, _ => False
variable {F : Fence} {n : Nat} {P : Program}
theorem wpIn_rangeFunc_stop {α : Type} {g : Operand} {ps : Array Tmp} {assign body : Code} {Q : Exit → Act → World → Prop} {a : Act} {w : World}
    (hro : F.round = none) (h1 : 1 ≤ n) {gf : Nat} {lb : Array Value} (hg : a.eval g = .func (.func gf) #[] lb) (hFg : F.fn gf) (eg : ∀ args w, (callFunc gf args).run P w = .ok (.enter gf args) w)
    {encs : α → Array Value} {Kp : World → World → Prop} {at_ : Nat → Option α} {w0 : World} (hseq : SeqStop F (n - 1) P gf lb encs Kp at_ w0)
    (hKt : ∀ {A B C : World}, Kp A B → Kp B C → Kp A C) (hKb : ∀ (W : World) (l : Nat) (o o' : Obj), w.heap.size ≤ l → W.heap[l]? = some o → o.isCells = false → o.isWalk = false → Kp W (W.putObj l o'))
    (hb0 : Below w0.heap.size w0 w) (hps : ∀ x, (encs x).size = ps.size)
    (N : Nat) (I : Nat → World → Prop) (Ix : Code → Nat → World → Prop) (hI : Far w.heap.size I) (hIx : ∀ c, Far w.heap.size (Ix c)) (hN : ∀ k W, I k W → k < N) (h0 : I 0 w)
    (Ib : α → Act → Nat → World → Prop) (hIb : ∀ x a', OwnFrom w.heap.size (Ib x a'))
    (hassign : ∀ (l k : Nat) (x : α) (W : World) (K : Act → World → Prop), I k W → at_ k = some x → w.heap.size ≤ W.heap.size → (∀ a' W', KeepsOthers W W' → Kp W W' → Ib x a' k W' → K a' W') →
      assign.wpIn (F.inRound l) (n - 1 - 1) P (Exit.then K (fun _ _ _ => False)) { tmps := (ps.zip (encs x)).foldl (fun t (p, v) => t.setIfInBounds p v) a.tmps, defers := [] } W)
    (hbody : ∀ (l k : Nat) (x : α) (a' : Act) (W : World), w.heap.size ≤ l → (∃ r, W.heap[l]? = some (.loop r)) → Ib x a' k W → at_ k = some x → w.heap.size ≤ W.heap.size →
      body.wpIn (F.inRound l) (n - 1 - 1) P (stopPost (fun W' => KeepsOthers W W' ∧ Kp W W' ∧ I (k + 1) W') (fun c W' => KeepsOthers W W' ∧ Ix c (k + 1) W')) a' W)
    (hdone : ∀ (D k : Nat) (W : World), w.heap.size ≤ D → at_ k = none → I k W → W.heap[D]? = some (.deferred (some [])) → Q .normal { a with defers := { target := .collected D, args := #[] } :: a.defers } W)
    (hstop : ∀ (D : Nat) (c : Code) (k : Nat) (W : World), w.heap.size ≤ D → Ix c k W → W.heap[D]? = some (.deferred (some [])) → c.wpIn F n P Q { a with defers := { target := .collected D, args := #[] } :: a.defers } W) :
    (Code.rangeFunc g ps assign body).wpIn F n P Q a w := by
  refine wpIn_rangeFunc fun fn hfn => ?_
  rw [hro]
  let rec0 : LoopState → Option Code → Loop := fun st pe => { state := st, pending := pe, fn := fn, tmps := a.tmps, params := ps, assign := assign, body := body, defers := w.heap.size }
  let W1 : World := (w.alloc (.deferred (some []))).alloc (.loop (rec0 .ready none))
  have hz1 : W1.heap.size = w.heap.size + 2 := by simp [W1]
  have hl1 : W1.heap[w.heap.size + 1]? = some (.loop (rec0 .ready none)) := by
    have e := World.alloc_heap_new (w.alloc (.deferred (some []))) (.loop (rec0 .ready none))
    rwa [World.size_alloc] at e
  have hd1 : W1.heap[w.heap.size]? = some (.deferred (some [])) := (Below.heap_alloc _ _ _ (by simp)).trans (World.alloc_heap_new w _)
  have hi1 : I 0 W1 := hI.alloc _ (hI.alloc _ h0)
  have hb1 : Below w0.heap.size w0 W1 := hb0.trans ((((Below.refl _ w).alloc (Nat.le_refl _) _).alloc (by simp) _).mono hb0.size)
  refine ⟨w.heap.size + 1, [{ target := .collected w.heap.size, args := #[] }], W1, { target := .fn (.func gf) lb, args := #[.func (.yield (w.heap.size + 1)) #[] #[]] }, W1, gf,
    #[.func (.yield (w.heap.size + 1)) #[] #[]] ++ lb, W1, run_enterLoop_outer _ _ _ _ _, by simp only [resolve, hg]; simp [go_sem],
    fun f' hf' => by simp [Target.leads] at hf'; subst hf'; exact hFg, by simp [invoke, go_sem, eg], fun _ => h1, ?_⟩
  have kept : ∀ {A B : World} {row : Option Nat} (i : Nat) (o : Obj), i < W1.heap.size → A.heap[i]? = some o → A.grownBy B row → (∀ r, row = some r → W1.heap.size ≤ r) → B.heap[i]? = some o := by
    intro A B row i o hi ho hg' hr
    exact (hg'.block i (Array.getElem?_eq_some_iff.1 ho).1 (fun e => by have := hr i e.symm; omega)).trans ho
  refine (hseq (w.heap.size + 1) (fun k W => I k W ∧ W.heap[w.heap.size + 1]? = some (.loop (rec0 .ready none)) ∧ W.heap[w.heap.size]? = some (.deferred (some [])))
    (fun k W => ∃ c, Ix c k W ∧ W.heap[w.heap.size + 1]? = some (.loop (rec0 .done (some c))) ∧ W.heap[w.heap.size]? = some (.deferred (some []))) N W1 hb1
    (fun s A B row hs hg' hr => ⟨hI s A B row hs.1 hg' (fun r e => by have := hr r e; omega), kept _ _ (by omega) hs.2.1 hg' hr, kept _ _ (by omega) hs.2.2 hg' hr⟩)
    (fun s A B row hs hg' hr => by
      obtain ⟨c, h1, h2, h3⟩ := hs
      exact ⟨c, hIx c s A B row h1 hg' (fun r e => by have := hr r e; omega), kept _ _ (by omega) h2 hg' hr, kept _ _ (by omega) h3 hg' hr⟩)
    (fun k W h => hN k W h.1) ?_ ⟨hi1, hl1, hd1⟩).mono ?_
  · -- a round
    rintro k x W ⟨hi, hl, hd⟩ hat
    have hlt : w.heap.size + 1 < W.heap.size := (Array.getElem?_eq_some_iff.1 hl).1
    have hy := run_yield (P := P) (args := encs x) hl (hps x)
    refine ⟨fn, _, assign, body, hy, roundIn_of_wpIn hfn (hassign _ k x W _ hi hat (by omega) ?_)⟩
    intro a' W2 hk2 hp2 hib
    have hl2 := hk2.same _ _ hl rfl
    have hd2 := hk2.same _ _ hd rfl
    have hlt2 : w.heap.size + 1 < W2.heap.size := (Array.getElem?_eq_some_iff.1 hl2).1
    refine ⟨_, run_beginRound hl2 rfl, ?_⟩
    have hl3 : (W2.putObj (w.heap.size + 1) (.loop { rec0 .ready none with state := .busy })).heap[w.heap.size + 1]? = some (.loop { rec0 .ready none with state := .busy }) := World.putObj_heap_same hlt2
    have hd3 : (W2.putObj (w.heap.size + 1) (.loop { rec0 .ready none with state := .busy })).heap[w.heap.size]? = some (.deferred (some [])) := (World.putObj_heap_other (by omega)).trans hd2
    have hp3 : Kp W (W2.putObj (w.heap.size + 1) (.loop { rec0 .ready none with state := .busy })) := hKt hp2 (hKb _ _ _ _ (by omega) hl2 rfl rfl)
    refine wpIn_mono (hbody _ k x a' _ (by omega) ⟨_, hl3⟩ ((hIb x a').putObj _ hib (by omega) hl2 rfl) hat (by rw [World.putObj_size]; omega)) ?_
    intro e a3 W4 hp
    have fin : ∀ (jump : Code), KeepsOthers (W2.putObj (w.heap.size + 1) (.loop { rec0 .ready none with state := .busy })) W4 → Ix jump (k + 1) W4 →
        ∃ v w', (Instr.endRound (w.heap.size + 1) (some jump)).run P W4 = .ok v w' ∧ Ending.returned v = .returned (.bool false) ∧
          ∃ c, Ix c (k + 1) w' ∧ w'.heap[w.heap.size + 1]? = some (.loop (rec0 .done (some c))) ∧ w'.heap[w.heap.size]? = some (.deferred (some [])) := fun jump hk4 hi4 => by
      have hl4 := hk4.same _ _ hl3 rfl
      have hlt4 : w.heap.size + 1 < W4.heap.size := (Array.getElem?_eq_some_iff.1 hl4).1
      exact ⟨_, _, run_endRound (P := P) (some jump) hl4, rfl, jump, (hIx _).put _ hi4 (by omega), World.putObj_heap_same hlt4, (World.putObj_heap_other (by omega)).trans (hk4.same _ _ hd3 rfl)⟩
    cases e with
    | normal =>
      obtain ⟨hk4, hp4, hi4⟩ := hp
      have hl4 := hk4.same _ _ hl3 rfl
      have hlt4 : w.heap.size + 1 < W4.heap.size := (Array.getElem?_eq_some_iff.1 hl4).1
      refine ⟨_, _, run_endRound (P := P) none hl4, .inl ⟨rfl, ⟨hI.put _ hi4 (by omega), World.putObj_heap_same hlt4, (World.putObj_heap_other (by omega)).trans (hk4.same _ _ hd3 rfl)⟩, ?_⟩⟩
      exact hKt (hKt hp3 hp4) (hKb _ _ _ _ (by omega) hl4 rfl rfl)
    | ret => obtain ⟨v, w', hr, e1, e2⟩ := fin .ret hp.1 hp.2; exact ⟨v, w', hr, .inr ⟨e1, e2⟩⟩
    | exit id => obtain ⟨v, w', hr, e1, e2⟩ := fin (.exit id) hp.1 hp.2; exact ⟨v, w', hr, .inr ⟨e1, e2⟩⟩
    | goto t => obtain ⟨v, w', hr, e1, e2⟩ := fin (.goto t) hp.1 hp.2; exact ⟨v, w', hr, .inr ⟨e1, e2⟩⟩
    | panic ch => exact hp.elim
    | outgrown => exact hp.elim
  · -- behind the iterator
    rintro e W2 ⟨⟨v, rfl⟩, (⟨k, hk, hi, hl, hd⟩ | ⟨k, c, hi, hl, hd⟩)⟩
    · exact ⟨none, _, run_endLoop (P := P) hl (by simp [rec0]), hdone _ k _ (Nat.le_refl _) hk (hI.put _ hi (by omega)) ((World.putObj_heap_other (by omega)).trans hd)⟩
    · exact ⟨some c, _, run_endLoop (P := P) hl (by simp [rec0]), hstop _ c k _ (Nat.le_refl _) ((hIx c).put _ hi (by omega)) ((World.putObj_heap_other (by omega)).trans hd)⟩
end Go.Proofs.YtlinmcgmkpkpaaaDoor.Range
namespace Go.Proofs.YtlinmcgmkpkpaaaDoor.Mem
open Go.RowKit Go.Proofs.YtlinmcgmkpkpaaaDoor.Range
section
variable {F : Fence} {n : Nat} {P : Program} {ops : Array Oper} {rest : List Oper} {o : Oper} {a : Act} {w : World} {Q : Exit → Act → World → Prop}
end
structure Only (S : Nat → Prop) (w w' : World) : Prop where
  size : w.heap.size ≤ w'.heap.size
  block : ∀ (i : Nat) (o : Obj), ¬ S i → w.heap[i]? = some o → o.isCells = true → w'.heap[i]? = some o
section
variable {S S' : Nat → Prop} {w w' w'' : World}
theorem Only.refl (S : Nat → Prop) (w : World) : Only S w w := ⟨Nat.le_refl _, fun _ _ _ h _ => h⟩
theorem Only.trans (h : Only S w w') (k : Only S w' w'') : Only S w w'' := ⟨Nat.le_trans h.size k.size, fun i o hi ho hc => k.block i o hi (h.block i o hi ho hc) hc⟩
theorem Only.mono (h : Only S w w') (hS : ∀ i, S i → S' i) : Only S' w w' := ⟨h.size, fun i o hi => h.block i o (fun e => hi (hS i e))⟩
theorem Only.of_grown {row : Option Nat} (hg : w.grownBy w' row) (hr : ∀ r, row = some r → S r) : Only S w w' :=
  ⟨hg.size, fun i o hi ho _ => (hg.block i (Array.getElem?_eq_some_iff.1 ho).1 (fun e => hi (hr i e.symm))).trans ho⟩
theorem Only.of_below (h : Below w.heap.size w w') : Only S w w' := ⟨h.size, fun i o _ ho _ => (h.block i (Array.getElem?_eq_some_iff.1 ho).1).trans ho⟩
theorem Only.put (W : World) (l : Nat) (o o' : Obj) (h : W.heap[l]? = some o) (hc : o.isCells = false) : Only S W (W.putObj l o') :=
  ⟨by simp, fun i q _ hq hqc => by
    by_cases e : i = l
    · subst e; rw [h] at hq; cases hq; rw [hc] at hqc; cases hqc
    · exact (World.putObj_heap_other e).trans hq⟩
theorem Only.cell (h : Only S w w') {p : Addr} {v : Value} (hp : ¬ S p.block) (hc : w.cell? p = some v) : w'.cell? p = some v := by
  obtain ⟨o, ho, hcs⟩ := cells_of_cell hc
  exact (World.cell?_of_block ((h.block _ o hp ho hcs).trans ho.symm)).trans hc
theorem Only.row (h : Only S w w') {g : Nat} {t : TypeId} {k : IntKind} {zs : List Int} (hg : ¬ S g) (hr : Row w g t k zs) : Row w' g t k zs := ⟨hr.1, h.block g _ hg hr.2 rfl⟩
def IntsN (w : World) (k : IntKind) (S : Nat → Prop) (A : Option Addr) (n : Nat) (zs : List Int) : Prop :=
  zs.length = n ∧ (∀ z ∈ zs, (Lit.int k z).wf = true) ∧ (0 < n → ∃ b off, A = some ⟨b, off, none⟩ ∧ ¬ S b ∧ ∀ i, i < n → w.cell? ⟨b, off + i, none⟩ = some (.int k (zs.getD i 0)))
theorem IntsN.only {k : IntKind} {A : Option Addr} {n : Nat} {zs : List Int} (h : IntsN w k S A n zs) (ho : Only S w w') : IntsN w' k S A n zs :=
  ⟨h.1, h.2.1, fun hn => by
    obtain ⟨b, off, e, hb, hc⟩ := h.2.2 hn
    exact ⟨b, off, e, hb, fun i hi => ho.cell (p := ⟨b, off + i, none⟩) hb (hc i hi)⟩⟩
theorem IntsN.of {k : IntKind} {A : Option Addr} {n B : Nat} {zs : List Int} (h : Ints w k B A n zs) (hB : ∀ b, b < B → ¬ S b) : IntsN w k S A n zs :=
  ⟨h.1, h.2.1, fun hn => by
    obtain ⟨b, off, e, hb, hc⟩ := h.2.2 hn
    exact ⟨b, off, e, hB b hb, hc⟩⟩
theorem IntsN.row {t : TypeId} {k : IntKind} {g : Nat} {zs : List Int} (h : Row w g t k zs) (hg : ¬ S g) : IntsN w k S (some ⟨g, 0, none⟩) zs.length zs :=
  ⟨rfl, h.1, fun _ => ⟨g, 0, rfl, hg, fun i hi => by rw [Nat.zero_add]; exact h.cell hi⟩⟩
theorem IntsN.cut {k : IntKind} {b off n m cap : Nat} {zs : List Int} (h : IntsN w k S (some ⟨b, off, none⟩) n zs) (hm : m ≤ n) (hc : n ≤ cap) :
    IntsN w k S (if cap = m then some ⟨b, off, none⟩ else some ⟨b, off + m, none⟩) (n - m) (zs.drop m) := by
  refine ⟨by simp [h.1], fun z hz => h.2.1 z (List.mem_of_mem_drop hz), fun hn => ?_⟩
  obtain ⟨b', off', e, hb, hcell⟩ := h.2.2 (by omega)
  injection e with e
  injection e with e1 e2
  subst e1
  subst e2
  rw [if_neg (by omega)]
  refine ⟨b, off + m, rfl, hb, fun i hi => ?_⟩
  rw [Nat.add_assoc, hcell (m + i) (by omega)]
  simp [List.getD_eq_getElem?_getD, List.getElem?_drop]
end
end Go.Proofs.YtlinmcgmkpkpaaaDoor.Mem
