/-
  More operations of a region that draws its order: the address of an element, products, shifts, bits: no program here.
  Variables of one cell, the new world a letter; a function value held against nil; what is unlike, elements of several cells, within a region that draws its order: no program here.
  Numbers as bytes, and Poly1305, as plain functions: no program here.
  Numbers in limbs of 26 bits, and how they are multiplied modulo 2^130 - 5: no program here.
  Pieces, the tag's bytes, and what loops leave behind them: no program here.
  A table of numbers of any kind at a package-level variable's block; an array out of a slice, and out of the middle of a block: no program here.
  Within a fence: a store of one number into a block that is known whole, a built array, a copy, a whole array's address out of a slice, the new world a letter: no program here.
  Structs and arrays as wholes, within a region that draws its order and outside it: the address of a field, a whole value read, built, boxed, stored: no program here.
-/
import Derived.Test.YtjelacblnjbfgaaGreatDoorB8
import Derived.Deep.MidRow
import Derived.Test.YtjelacblnjbfgaaGreatDoorB2
import Derived.Test.YtjelacblnjbfgaaGreatDoorB5
import Derived.Lib.EndianBits
import Derived.Laws.StructEq
import Derived.Laws.ResultCell
set_option linter.unusedVariables false
namespace Go.Proofs.YtjelacblnjbfgaaGreatDoor.Held
open Go.RowKit Mem
section
variable {P : Program}
theorem run_addr_arr (t e : TypeId) (n g i : Nat) (k : IntKind) (ht : P.underlying t = some (.array n e)) (hs : (P.info? e).map (·.size) = some 1) (hi : i < n) (w : World) :
    (Instr.indexAt t (.pointer (some ⟨g, 0, none⟩)) (.int k (i : Int))).run P w = .ok (.pointer (some ⟨g, i, none⟩)) w := by
  have he : P.elem t = e := by simp [Program.elem, ht]
  have hl : P.arrayLen t = n := by simp [Program.arrayLen, ht]
  have hz : (sizeOf e).run P w = .ok 1 w := by
    cases hq : P.info? e with
    | none => simp [hq] at hs
    | some q => simp [hq] at hs; simp [sizeOf, typeInfo, hq, hs]
  have ea : (Addr.mk g 0 none).add i = ⟨g, i, none⟩ := by unfold Addr.add; split <;> simp_all
  rw [run_indexAt_array w t ⟨g, 0, none⟩ k (i : Int) (by rw [he, hl]; exact ht), he, hl, if_pos ⟨by omega, by omega⟩, hz]
  simp [Result.andThen, ea]
theorem run_addr_slice (t e : TypeId) (b off len cap i : Nat) (k : IntKind) (ht : P.underlying t = some (.slice e)) (hs : (P.info? e).map (·.size) = some 1) (hi : i < len) (w : World) :
    (Instr.indexAt t (.slice (some ⟨b, off, none⟩) len cap) (.int k (i : Int))).run P w = .ok (.pointer (some ⟨b, off + i, none⟩)) w := by
  have he : P.elem t = e := by simp [Program.elem, ht]
  have hz : (sizeOf e).run P w = .ok 1 w := by
    cases hq : P.info? e with
    | none => simp [hq] at hs
    | some q => simp [hq] at hs; simp [sizeOf, typeInfo, hq, hs]
  have ea : (Addr.mk b off none).add i = ⟨b, off + i, none⟩ := by unfold Addr.add; split <;> simp_all
  rw [run_indexAt_slice w t ⟨b, off, none⟩ len cap k (i : Int) (by rw [he]; exact ht), he, if_pos ⟨by omega, by omega⟩, hz]
  simp [Result.andThen, ea]
theorem run_mul (t : TypeId) (k : IntKind) {a b r : Int} (hr : k.wrap (a * b) = r) (w : World) : (binOp .mul t (.int k a) (.int k b)).run P w = .ok (.int k r) w := by simp [binOp, Op.intArith, hr]
end
section
variable {P : Program} {S : World → Prop} {ρ : Operand → Value} {o : Oper}
theorem y_addr {t : TypeId} {x ix : Operand} {u v r : Value} (ho : o.op = .indexAddr t x ix) (hx : ρ x = u) (hi : ρ ix = v) (hr : ∀ w, (Instr.indexAt t u v).run P w = .ok r w) : ∀ w, S w → (execOp ρ o).run P w = .ok (.value r) w := fun w _ => by
  simp [execOp, ho, hx, hi, hr w]
end
theorem run_bitop {P : Program} {op : BinOp} (hop : op = .xor ∨ op = .or ∨ op = .and) (t : TypeId) (k : IntKind) {a b r : Int} (hr : bits op k a b = r) (w : World) : (binOp op t (.int k a) (.int k b)).run P w = .ok (.int k r) w := by
  subst hr; rcases hop with rfl | rfl | rfl <;> simp [binOp, Op.intBits, bits]
theorem run_shr {P : Program} (t : TypeId) (k k' : IntKind) {a r : Int} (n : Nat) (hn : n ≤ k.bits) (hr : a / 2 ^ n = r) (w : World) : (binOp .shr t (.int k a) (.int k' (n : Int))).run P w = .ok (.int k r) w := by
  subst hr
  rw [binOp_shr, shift_shr k k' a (n : Int) (by omega) (by omega), Int.toNat_natCast]
  rfl
theorem op_store_elem {P : Program} {ops : Array Oper} {Q : Exit → Act → World → Prop} (i : Nat) (d : Option Tmp) {o : Oper} {a : Act} {w : World} {K : Act → World → Prop} (ty : TypeId) {x y : Operand} (g j : Nat) (t : TypeId) (k : IntKind) (zs : List Int) (z : Int) (hi : ops[i]? = some o) (hd : o.dst = d) (hw : Region.wanted o (yielded ops a.tmps) = true)
    (ho : o.op = .store ty x y) (hx : a.eval x = .pointer (some ⟨g, j, none⟩)) (hy : a.eval y = .int k z) (hr : Row w g t k zs) (hj : j < zs.length) (hsz : (P.info? ty).map (·.size) = some 1) (hz : (Lit.int k z).wf = true)
    (h : ∀ w', Row w' g t k (zs.set j z) → w.grownBy w' (some g) → K (a.put d undef) w') : wpOp P ops Q i K a w := by
  subst hd
  refine op_wp i hi hw ?_
  unfold Oper.wp execOp
  simp only [ho, hx, hy, Instr.storeAt, Instr.sureAddr, Sem.run_bind, Sem.run_pure, Result.andThen_ok, run_store_elem ty g j _ (.int k z) (hr.cell hj) (hr.frozen j) hsz rfl rfl]
  exact h _ (hr.set j hz) (grown_setCell _ _ _ _)
end Go.Proofs.YtjelacblnjbfgaaGreatDoor.Held
namespace Go.Proofs.YtjelacblnjbfgaaGreatDoor.Held
open Go.RowKit Mem
theorem wpList_store_box {P : Program} {ops : Array Oper} {rest : List Oper} {o : Oper} {a : Act} {w : World} {Q : Exit → Act → World → Prop} (hw : Region.wanted o (yielded ops a.tmps) = true) (ty : TypeId) (x y : Operand) (ho : o.op = .store ty x y) (g : Nat) (hx : a.eval x = .pointer (some ⟨g, 0, none⟩)) (t : TypeId) (old v : Value) (hy : a.eval y = v)
    (hb : w.heap[g]? = some (.cells #[old] t (0, 0))) (hsz : (P.info? ty).map (·.size) = some 1) (h1 : v.cells = #[v]) (ho1 : v.oneCell' = true)
    (h : ∀ w', w'.heap[g]? = some (.cells #[v] t (0, 0)) → w.grownBy w' (some g) → wpList P ops Q rest (a.put o.dst undef) w') : wpList P ops Q (o :: rest) a w :=
  wpList_step fun _ hK => by
    rw [if_pos hw]
    unfold Oper.wp execOp
    simp only [ho, hx, hy, Instr.storeAt, Instr.sureAddr, Sem.run_bind, Sem.run_pure, Result.andThen_ok, run_store_box ty g t old v hb hsz h1 ho1]
    exact hK _ _ (h _ (one_setCell hb) (grown_setCell _ _ _ _))
theorem row_form {w : World} {base : Nat} {e : TypeId} {s n : Nat} {v : Value} {xs : List Value} (h : w.ownsRow base e s v n xs) : ∃ A c, v = .slice A n c ∧ n ≤ c ∧ c ≤ maxLen := by
  rcases h.2 with ⟨rfl, hn⟩ | ⟨g, cap, cur, rfl, _, _, h1, h2, _⟩
  · exact ⟨none, 0, by rw [hn], by omega, by simp [maxLen]⟩
  · exact ⟨_, cap, rfl, h1, h2⟩
theorem wpList_alloc_cell {P : Program} {ops : Array Oper} {rest : List Oper} {o : Oper} {a : Act} {w : World} {Q : Exit → Act → World → Prop} (hw : Region.wanted o (yielded ops a.tmps) = true) (ty : TypeId) (ho : o.op = .alloc ty) (z : Value) (hz : (P.info? ty).bind (·.zero) = some z) (h1 : z.cells = #[z])
    (h : ∀ w', w'.heap[w.heap.size]? = some (.cells #[z] ty (0, 0)) → w.grownBy w' none → Hid (w'.heap.size = w.heap.size + 1) → wpList P ops Q rest (a.put o.dst (.pointer (some ⟨w.heap.size, 0, none⟩))) w') : wpList P ops Q (o :: rest) a w :=
  wpList_step fun _ hK => by
    rw [if_pos hw]
    unfold Oper.wp execOp
    simp only [ho, run_alloc_one ty z hz h1, Sem.run_bind, Sem.run_pure, Result.andThen_ok]
    exact hK _ _ (h _ (heap_alloc_new w _) (World.grownBy_alloc w _ none) (Lib.hid (by simp)))
theorem range_below {B : Nat} {w w' : World} {b o : Nat} {cs : List Value} (h : w.rangeAt b o cs) (hb : Below B w w') (hB : b < B) : w'.rangeAt b o cs := fun j v hv => (hb.cell (p := ⟨b, o + j, none⟩) hB).trans (h j v hv)
end Go.Proofs.YtjelacblnjbfgaaGreatDoor.Held
namespace Go.Proofs.YtjelacblnjbfgaaGreatDoor.Po
open Go.Proofs.YtjelacblnjbfgaaGreatDoor.Sum
def val : List Int → Int
  | [] => 0
  | x :: xs => x + 256 * val xs
def digits (n : Int) : Nat → List Int
  | 0 => []
  | k + 1 => n % 256 :: digits (n / 256) k
def carried (c : Int) : List Int → List Int
  | [] => []
  | x :: xs => (c + x) % 256 :: carried ((c + x) / 256) xs
theorem carried_eq : ∀ (xs : List Int) (c : Int), carried c xs = digits (c + val xs) xs.length
  | [], c => rfl
  | x :: xs, c => by
    rw [carried, val, List.length_cons, digits, carried_eq xs, show (c + (x + 256 * val xs)) % 256 = (c + x) % 256 by omega, show (c + (x + 256 * val xs)) / 256 = (c + x) / 256 + val xs by omega]
theorem digits_length : ∀ (k : Nat) (n : Int), (digits n k).length = k
  | 0, _ => rfl
  | k + 1, n => by rw [digits, List.length_cons, digits_length k]
theorem digits_bytes : ∀ (k : Nat) (n : Int), Bs (digits n k)
  | 0, _ => fun z hz => by cases hz
  | k + 1, n => fun z hz => by
    rcases List.mem_cons.1 hz with rfl | h
    · omega
    · exact digits_bytes k _ z h
theorem val_digits : ∀ (k : Nat) (n : Int), val (digits n k) = n % 256 ^ k
  | 0, n => by simp [digits, val]
  | k + 1, n => by
    rw [digits, val, val_digits k, Int.pow_succ, Int.mul_comm (256 ^ k) 256]
    have hN : (0 : Int) < 256 ^ k := Int.pow_pos (by omega)
    generalize (256 : Int) ^ k = N at hN ⊢
    have h1 := Int.emod_nonneg (n / 256) (show N ≠ 0 by omega)
    have h2 := Int.emod_lt_of_pos (n / 256) hN
    have h3 := Int.mul_ediv_add_emod (n / 256) N
    have h4 : n = (n % 256 + 256 * (n / 256 % N)) + 256 * N * (n / 256 / N) := by
      rw [Int.mul_assoc]
      omega
    have h5 : n % (256 * N) = (n % 256 + 256 * (n / 256 % N)) % (256 * N) := by
      conv => lhs; rw [h4]
      rw [Int.add_mul_emod_self_left]
    rw [h5]
    exact (Int.emod_eq_of_lt (by omega) (by omega)).symm
theorem val_nonneg : ∀ {xs : List Int}, (∀ x ∈ xs, 0 ≤ x) → 0 ≤ val xs
  | [], _ => Int.le_refl _
  | x :: xs, h => by
    have h1 := h x List.mem_cons_self
    have h2 := val_nonneg (xs := xs) fun y hy => h y (List.mem_cons_of_mem _ hy)
    rw [val]
    omega
theorem val_lt : ∀ {xs : List Int}, Bs xs → val xs < 256 ^ xs.length
  | [], _ => by simp [val]
  | x :: xs, h => by
    have h1 := h x List.mem_cons_self
    have h2 := val_lt (xs := xs) fun y hy => h y (List.mem_cons_of_mem _ hy)
    rw [val, List.length_cons, Int.pow_succ]
    omega
theorem digits_val : ∀ {xs : List Int}, Bs xs → digits (val xs) xs.length = xs
  | [], _ => rfl
  | x :: xs, h => by
    have h1 := h x List.mem_cons_self
    rw [val, List.length_cons, digits, show (x + 256 * val xs) % 256 = x by omega, show (x + 256 * val xs) / 256 = val xs by omega, digits_val fun y hy => h y (List.mem_cons_of_mem _ hy)]
theorem digits_get : ∀ (k : Nat) (n : Int) (i : Nat), i < k → (digits n k).getD i 0 = n / 256 ^ i % 256
  | 0, _, _, h => absurd h (by omega)
  | k + 1, n, 0, _ => by simp [digits]
  | k + 1, n, i + 1, h => by
    rw [digits, List.getD_cons_succ, digits_get k _ i (by omega), Int.pow_succ, Int.mul_comm (256 ^ i) 256, Int.ediv_ediv_of_nonneg (by omega : (0 : Int) ≤ 256)]
def modulus : Int := 2 ^ 130 - 5
def red (n : Int) : Int := n % 2 ^ 130 + 5 * (n / 2 ^ 130)
theorem red_mod (n : Int) : red n % modulus = n % modulus := by
  have h : n = red n + modulus * (n / 2 ^ 130) := by unfold red modulus; omega
  conv => rhs; rw [h]
  rw [Int.add_mul_emod_self_left]
theorem red_nonneg {n : Int} (h : 0 ≤ n) : 0 ≤ red n := by unfold red; omega
theorem red_four {n : Int} (h : 0 ≤ n) (hn : n < 2 ^ 300) : 0 ≤ red (red (red (red n))) ∧ red (red (red (red n))) < 2 ^ 130 := by unfold red; omega
def clampAt (key : List Int) (i : Nat) : Int := if i % 4 = 3 then key.getD i 0 % 16 else if i = 4 ∨ i = 8 ∨ i = 12 then key.getD i 0 / 4 * 4 else key.getD i 0
def clamp (key : List Int) : List Int := (List.range 16).map (clampAt key)
def step (r a : Int) (piece : List Int) : Int := (a + val (piece ++ [1])) * r % modulus
def acc (r : Int) (m : List Int) : Nat → Int
  | 0 => 0
  | k + 1 => step r (acc r m k) ((m.drop (16 * k)).take 16)
def count (m : List Int) : Nat := (m.length + 15) / 16
def poly (key msg : List Int) : List Int := digits (acc (val (clamp key)) msg (count msg) + val ((key.drop 16).take 16)) 16
theorem val_append : ∀ (xs ys : List Int), val (xs ++ ys) = val xs + 256 ^ xs.length * val ys
  | [], ys => by simp [val]
  | x :: xs, ys => by
    rw [List.cons_append, val, val, val_append xs ys, List.length_cons, Int.pow_succ, Int.mul_comm (256 ^ xs.length) 256, Int.mul_assoc]
    omega
theorem clampAt_bound {key : List Int} (h : Bs key) (i : Nat) : 0 ≤ clampAt key i ∧ clampAt key i ≤ 255 := by
  have := h.at_ i
  unfold clampAt
  split
  · omega
  · split <;> omega
theorem clamp_bytes {key : List Int} (h : Bs key) : Bs (clamp key) := fun z hz => by
  obtain ⟨i, _, rfl⟩ := List.mem_map.1 hz
  exact clampAt_bound h i
theorem poly_length (key msg : List Int) : (poly key msg).length = 16 := digits_length _ _
theorem poly_bytes (key msg : List Int) : Bs (poly key msg) := digits_bytes _ _
theorem clamp_length (key : List Int) : (clamp key).length = 16 := by simp [clamp]
end Go.Proofs.YtjelacblnjbfgaaGreatDoor.Po
namespace Go.Proofs.YtjelacblnjbfgaaGreatDoor.Po
open Go.Proofs.YtjelacblnjbfgaaGreatDoor.Sum
def lv : List Int → Int
  | [] => 0
  | x :: xs => x + 67108864 * lv xs
def limbs (n : Int) : List Int := [n % 67108864, n / 67108864 % 67108864, n / 4503599627370496 % 67108864, n / 302231454903657293676544 % 67108864, n / 20282409603651670423947251286016 % 67108864]
theorem lv_limbs {n : Int} (h : 0 ≤ n) (h' : n < 2 ^ 130) : lv (limbs n) = n := by
  unfold limbs
  simp only [lv]
  omega
theorem limbs_bound (n : Int) : ∀ x ∈ limbs n, 0 ≤ x ∧ x < 67108864 := by
  intro x hx
  simp only [limbs, List.mem_cons, List.not_mem_nil, or_false] at hx
  omega
theorem limbs_length (n : Int) : (limbs n).length = 5 := rfl
theorem limb_of {p : List Int} (h : Bs p) (hl : p.length = 17) {i : Nat} (hi : i < 5) : val ((p.drop (3 * i)).take 5) / 2 ^ (2 * i) % 67108864 = (limbs (val p)).getD i 0 := by
  have e1 : p.take (3 * i) ++ p.drop (3 * i) = p := List.take_append_drop _ _
  have e2 : (p.drop (3 * i)).take 5 ++ (p.drop (3 * i)).drop 5 = p.drop (3 * i) := List.take_append_drop _ _
  have v1 := val_append (p.take (3 * i)) (p.drop (3 * i))
  have v2 := val_append ((p.drop (3 * i)).take 5) ((p.drop (3 * i)).drop 5)
  have l1 : (p.take (3 * i)).length = 3 * i := by simp; omega
  have l2 : ((p.drop (3 * i)).take 5).length = 5 := by simp; omega
  have b1 := val_lt (xs := p.take (3 * i)) fun z hz => h z (List.mem_of_mem_take hz)
  have b0 := val_nonneg (xs := p.take (3 * i)) fun z hz => (h z (List.mem_of_mem_take hz)).1
  rw [e1, l1] at v1
  rw [e2, l2] at v2
  rw [l1] at b1
  generalize val (p.take (3 * i)) = A at *
  generalize val ((p.drop (3 * i)).drop 5) = B at *
  generalize val ((p.drop (3 * i)).take 5) = F at *
  rw [v1, v2]
  clear v1 v2 e1 e2 l1 l2
  rcases (show i = 0 ∨ i = 1 ∨ i = 2 ∨ i = 3 ∨ i = 4 by omega) with rfl | rfl | rfl | rfl | rfl <;>
    simp only [limbs, List.getD_cons_zero, List.getD_cons_succ, Nat.reduceMul] at b1 ⊢ <;> omega
theorem val_take_succ (s : List Int) {j : Nat} (h : j < s.length) : val (s.take (j + 1)) = val (s.take j) + s.getD j 0 * 256 ^ j := by
  have e : s.take (j + 1) = s.take j ++ [s.getD j 0] := by
    rw [List.take_succ_eq_append_getElem h, List.getD_eq_getElem?_getD, List.getElem?_eq_getElem h]
    rfl
  rw [e, val_append]
  simp only [val, List.length_take, Nat.min_eq_left (Nat.le_of_lt h)]
  rw [Int.mul_zero, Int.add_zero, Int.mul_comm]
theorem val_zeros : ∀ k : Nat, val (List.replicate k 0) = 0
  | 0 => rfl
  | k + 1 => by rw [List.replicate_succ, val, val_zeros k]; rfl
theorem digits_mod : ∀ (k : Nat) {n m : Int}, n % 256 ^ k = m % 256 ^ k → digits n k = digits m k
  | 0, _, _, _ => rfl
  | k + 1, n, m, h => by
    have hN : (0 : Int) < 256 ^ k := Int.pow_pos (by omega)
    rw [Int.pow_succ, Int.mul_comm (256 ^ k) 256] at h
    have e : ∀ x : Int, x % (256 * 256 ^ k) = x % 256 + 256 * (x / 256 % 256 ^ k) := fun x => by
      generalize (256 : Int) ^ k = N at hN
      have h1 := Int.emod_nonneg (x / 256) (show N ≠ 0 by omega)
      have h2 := Int.emod_lt_of_pos (x / 256) hN
      have h3 := Int.mul_ediv_add_emod (x / 256) N
      have h4 : x = (x % 256 + 256 * (x / 256 % N)) + 256 * N * (x / 256 / N) := by
        rw [Int.mul_assoc]
        omega
      conv => lhs; rw [h4]
      rw [Int.add_mul_emod_self_left]
      exact Int.emod_eq_of_lt (by omega) (by omega)
    rw [e n, e m] at h
    have h1 : n % 256 = m % 256 := by omega
    have h2 : n / 256 % 256 ^ k = m / 256 % 256 ^ k := by omega
    rw [digits, digits, h1, digits_mod k h2]
def addL (a b : List Int) : List Int := List.zipWith (· + ·) a b
theorem lv_addL : ∀ {a b : List Int}, a.length = b.length → lv (addL a b) = lv a + lv b
  | [], [], _ => rfl
  | x :: xs, y :: ys, h => by
    have := lv_addL (a := xs) (b := ys) (by simpa using h)
    simp only [addL, List.zipWith_cons_cons, lv] at this ⊢
    rw [this]
    omega
theorem five {a : List Int} (h : a.length = 5) : ∃ a0 a1 a2 a3 a4, a = [a0, a1, a2, a3, a4] := by
  match a, h with
  | [a0, a1, a2, a3, a4], _ => exact ⟨a0, a1, a2, a3, a4, rfl⟩
def factors (r : List Int) : List Int := r.map (5 * ·) ++ r
def psum (a f : List Int) : Nat → Nat → Int
  | 0, _ => 0
  | i + 1, j => psum a f i j + a.getD i 0 * f.getD (5 - i + j) 0
def mulL (a r : List Int) : List Int := (List.range 5).map (psum a (factors r) 5)
theorem mulL_mod {a r : List Int} (ha : a.length = 5) (hr : r.length = 5) : lv (mulL a r) % modulus = lv a * lv r % modulus := by
  obtain ⟨a0, a1, a2, a3, a4, rfl⟩ := five ha
  obtain ⟨r0, r1, r2, r3, r4, rfl⟩ := five hr
  have e : lv [a0, a1, a2, a3, a4] * lv [r0, r1, r2, r3, r4] = lv (mulL [a0, a1, a2, a3, a4] [r0, r1, r2, r3, r4]) + modulus * ((a1*r4+a2*r3+a3*r2+a4*r1) + 67108864*((a2*r4+a3*r3+a4*r2) + 67108864*((a3*r4+a4*r3) + 67108864*(a4*r4)))) := by
    simp [lv, mulL, factors, psum, modulus, List.range, List.range.loop]
    grind
  rw [e, Int.add_mul_emod_self_left]
theorem psum_bound {a f : List Int} (ha : ∀ x ∈ a, 0 ≤ x ∧ x < 268435456) (hf : ∀ x ∈ f, 0 ≤ x ∧ x < 536870912) : ∀ (i j : Nat), 0 ≤ psum a f i j ∧ psum a f i j ≤ i * 144115188075855872
  | 0, j => by simp [psum]
  | i + 1, j => by
    have ih := psum_bound ha hf i j
    have g : ∀ {l : List Int} {B : Int} (k : Nat), 0 < B → (∀ x ∈ l, 0 ≤ x ∧ x < B) → 0 ≤ l.getD k 0 ∧ l.getD k 0 < B := fun {l B} k hB hl => by
      rw [List.getD_eq_getElem?_getD]
      by_cases hk : k < l.length
      · rw [List.getElem?_eq_getElem hk]; exact hl _ (List.getElem_mem hk)
      · rw [List.getElem?_eq_none (by omega)]; simpa using hB
    have h1 := g i (by omega) ha
    have h2 := g (5 - i + j) (by omega) hf
    rw [psum]
    generalize a.getD i 0 = x at h1
    generalize f.getD (5 - i + j) 0 = y at h2
    have m1 : 0 ≤ x * y := Int.mul_nonneg h1.1 h2.1
    have m2 : x * y ≤ 268435456 * 536870912 := Int.mul_le_mul (by omega) (by omega) h2.1 (by omega)
    omega
theorem factors_length {r : List Int} (h : r.length = 5) : (factors r).length = 10 := by simp [factors, h]
theorem factors_bound {r : List Int} (h : ∀ x ∈ r, 0 ≤ x ∧ x < 67108864) : ∀ x ∈ factors r, 0 ≤ x ∧ x < 536870912 := by
  intro x hx
  rcases List.mem_append.1 hx with hx | hx
  · obtain ⟨y, hy, rfl⟩ := List.mem_map.1 hx
    have := h y hy
    omega
  · have := h x hx
    omega
def carL (c : Int) : List Int → List Int
  | [] => []
  | x :: xs => (x + c) % 67108864 :: carL ((x + c) / 67108864) xs
def over (c : Int) (xs : List Int) : Nat → Int
  | 0 => c
  | k + 1 => (xs.getD k 0 + over c xs k) / 67108864
theorem over_cons (c x : Int) (xs : List Int) : ∀ k, over c (x :: xs) (k + 1) = over ((x + c) / 67108864) xs k
  | 0 => rfl
  | k + 1 => by rw [over, over_cons c x xs k, List.getD_cons_succ, over]
theorem carL_length : ∀ (c : Int) (xs : List Int), (carL c xs).length = xs.length
  | _, [] => rfl
  | c, x :: xs => by rw [carL, List.length_cons, List.length_cons, carL_length]
theorem carL_get : ∀ (c : Int) (xs : List Int) (k : Nat), k < xs.length → (carL c xs).getD k 0 = (xs.getD k 0 + over c xs k) % 67108864
  | _, [], _, h => by simp at h
  | c, x :: xs, 0, _ => rfl
  | c, x :: xs, k + 1, h => by rw [carL, List.getD_cons_succ, List.getD_cons_succ, over_cons, carL_get _ xs k (by simpa using h)]
theorem lv_carL : ∀ (c : Int) (xs : List Int), lv (carL c xs) + 67108864 ^ xs.length * over c xs xs.length = lv xs + c
  | c, [] => by simp [lv, carL, over]
  | c, x :: xs => by
    have := lv_carL ((x + c) / 67108864) xs
    rw [carL, lv, lv, List.length_cons, over_cons, Int.pow_succ, Int.mul_comm (67108864 ^ xs.length) 67108864, Int.mul_assoc]
    omega
def settle (n : List Int) : List Int :=
  let m := carL 0 n
  let t := m.getD 0 0 + 5 * over 0 n 5
  ((m.set 0 t).set 1 (m.getD 1 0 + t / 67108864)).set 0 (t % 67108864)
def Settled (a : List Int) : Prop := ∃ a0 a1 a2 a3 a4, a = [a0, a1, a2, a3, a4] ∧ (0 ≤ a0 ∧ a0 < 67108864) ∧ (0 ≤ a1 ∧ a1 < 67121152) ∧ (0 ≤ a2 ∧ a2 < 67108864) ∧ (0 ≤ a3 ∧ a3 < 67108864) ∧ (0 ≤ a4 ∧ a4 < 67108864)
theorem over_bound {n : List Int} (h : ∀ x ∈ n, 0 ≤ x ∧ x < 1152921504606846976) : ∀ k, 0 ≤ over 0 n k ∧ over 0 n k < 68719476736
  | 0 => by simp [over]
  | k + 1 => by
    have ih := over_bound h k
    have : 0 ≤ n.getD k 0 ∧ n.getD k 0 < 1152921504606846976 := by
      rw [List.getD_eq_getElem?_getD]
      by_cases hk : k < n.length
      · rw [List.getElem?_eq_getElem hk]; exact h _ (List.getElem_mem hk)
      · rw [List.getElem?_eq_none (by omega)]; simp
    rw [over]
    omega
theorem settle_settled {n : List Int} (hl : n.length = 5) (h : ∀ x ∈ n, 0 ≤ x ∧ x < 1152921504606846976) : Settled (settle n) := by
  have ho := over_bound h 5
  obtain ⟨a0, a1, a2, a3, a4, rfl⟩ := five hl
  generalize hO : over 0 [a0, a1, a2, a3, a4] 5 = O at ho
  simp only [settle, carL, hO, List.getD_cons_zero, List.getD_cons_succ, List.set_cons_zero, List.set_cons_succ]
  refine ⟨_, _, _, _, _, rfl, ?_, ?_, ?_, ?_, ?_⟩ <;> omega
theorem settle_mod {n : List Int} (hl : n.length = 5) : lv (settle n) % modulus = lv n % modulus := by
  have hc := lv_carL 0 n
  have hm := carL_length 0 n
  rw [hl] at hc hm
  obtain ⟨m0, m1, m2, m3, m4, hm⟩ := five hm
  rw [settle]
  simp only [hm] at hc ⊢
  generalize over 0 n 5 = O at hc ⊢
  have e : lv n = lv ((([m0, m1, m2, m3, m4].set 0 ([m0, m1, m2, m3, m4].getD 0 0 + 5 * O)).set 1 ([m0, m1, m2, m3, m4].getD 1 0 + ([m0, m1, m2, m3, m4].getD 0 0 + 5 * O) / 67108864)).set 0 (([m0, m1, m2, m3, m4].getD 0 0 + 5 * O) % 67108864)) + modulus * O := by
    simp only [lv, List.getD_cons_zero, List.getD_cons_succ, List.set_cons_zero, List.set_cons_succ, modulus] at hc ⊢
    omega
  rw [e, Int.add_mul_emod_self_left]
theorem Settled.length {a : List Int} (h : Settled a) : a.length = 5 := by
  obtain ⟨_, _, _, _, _, rfl, _⟩ := h
  rfl
theorem Settled.bound {a : List Int} (h : Settled a) : ∀ x ∈ a, 0 ≤ x ∧ x < 134217728 := by
  obtain ⟨a0, a1, a2, a3, a4, rfl, h⟩ := h
  intro x hx
  simp only [List.mem_cons, List.not_mem_nil, or_false] at hx
  omega
theorem over_eq {a : List Int} (h : Settled a) : over 5 a 5 = (lv a + 5) / 2 ^ 130 := by
  obtain ⟨a0, a1, a2, a3, a4, rfl, h⟩ := h
  simp only [over, lv, List.getD_cons_zero, List.getD_cons_succ]
  omega
def reduce (a : List Int) : List Int := a.set 0 (a.getD 0 0 + 5 * over 5 a 5)
theorem reduce_mod {a : List Int} (h : Settled a) : lv (reduce a) % 2 ^ 128 = (lv a % modulus) % 2 ^ 128 := by
  have ho := over_eq h
  obtain ⟨a0, a1, a2, a3, a4, rfl, h⟩ := h
  rw [reduce]
  generalize over 5 [a0, a1, a2, a3, a4] 5 = O at ho ⊢
  simp only [lv, modulus, List.getD_cons_zero, List.set_cons_zero] at ho ⊢
  have hO : O = 0 ∨ O = 1 := by omega
  generalize hV : a0 + 67108864 * (a1 + 67108864 * (a2 + 67108864 * (a3 + 67108864 * (a4 + 67108864 * 0)))) = V at ho ⊢
  rw [show a0 + 5 * O + 67108864 * (a1 + 67108864 * (a2 + 67108864 * (a3 + 67108864 * (a4 + 67108864 * 0)))) = V + 5 * O by omega]
  have hV2 : 0 ≤ V ∧ V < 2 * (2 ^ 130 - 5) := by omega
  rcases hO with rfl | rfl
  · rw [show V % (2 ^ 130 - 5) = V by omega]
    omega
  · rw [show V % (2 ^ 130 - 5) = V - (2 ^ 130 - 5) by omega]
    omega
end Go.Proofs.YtjelacblnjbfgaaGreatDoor.Po
namespace Go.Proofs.YtjelacblnjbfgaaGreatDoor.Po
open Go.Proofs.YtjelacblnjbfgaaGreatDoor.Sum
def blend (F a : List Int) (i : Nat) : List Int := F.take i ++ a.drop i
theorem blend_zero (F a : List Int) : blend F a 0 = a := by simp [blend]
theorem blend_all {F a : List Int} (h : F.length = a.length) : blend F a a.length = F := by rw [blend, ← h, List.take_length, h, List.drop_length, List.append_nil]
theorem blend_length {F a : List Int} (h : F.length = a.length) (i : Nat) : (blend F a i).length = a.length := by simp [blend]; omega
theorem blend_get {F a : List Int} (h : F.length = a.length) {i : Nat} (hi : i < a.length) : (blend F a i).getD i 0 = a.getD i 0 := by
  have e : (F.take i).length = i := by simp; omega
  rw [blend, List.getD_eq_getElem?_getD, List.getElem?_append_right (by omega), e, List.getElem?_drop, List.getD_eq_getElem?_getD]
  congr 2
  omega
theorem blend_set {F a : List Int} (h : F.length = a.length) {i : Nat} (hi : i < a.length) : (blend F a i).set i (F.getD i 0) = blend F a (i + 1) := by
  have e : (F.take i).length = i := by simp; omega
  rw [blend, blend, List.set_append_right _ _ (by omega), e, Nat.sub_self, List.take_succ_eq_append_getElem (by omega), List.append_assoc]
  congr 1
  rw [List.drop_eq_getElem_cons hi, List.set_cons_zero]
  simp [List.getD_eq_getElem?_getD, show i < F.length by omega]
theorem getD_range {l : List Int} {P : Int → Prop} (h : ∀ x ∈ l, P x) (h0 : P 0) (i : Nat) : P (l.getD i 0) := by
  rw [List.getD_eq_getElem?_getD]
  by_cases hi : i < l.length
  · rw [List.getElem?_eq_getElem hi]; exact h _ (List.getElem_mem hi)
  · rw [List.getElem?_eq_none (by omega)]; exact h0
def mix (a f : List Int) (i j : Nat) : List Int := (List.range 5).map fun k => if k < j then psum a f (i + 1) k else psum a f i k
theorem mix_start (a f : List Int) : mix a f 0 0 = [0, 0, 0, 0, 0] := by simp [mix, psum, List.range, List.range.loop]
theorem mix_length (a f : List Int) (i j : Nat) : (mix a f i j).length = 5 := by simp [mix]
theorem mix_next (a f : List Int) (i : Nat) : mix a f i 5 = mix a f (i + 1) 0 := by simp [mix, List.range, List.range.loop]
theorem mix_end (a r : List Int) : mix a (factors r) 5 0 = mulL a r := by simp [mix, mulL]
theorem mix_get (a f : List Int) (i : Nat) {j : Nat} (h : j < 5) : (mix a f i j).getD j 0 = psum a f i j := by simp [mix, List.getD_eq_getElem?_getD, h]
theorem mix_set (a f : List Int) (i : Nat) {j : Nat} (h : j < 5) : (mix a f i j).set j (psum a f i j + a.getD i 0 * f.getD (5 - i + j) 0) = mix a f i (j + 1) := by
  rcases (show j = 0 ∨ j = 1 ∨ j = 2 ∨ j = 3 ∨ j = 4 by omega) with rfl | rfl | rfl | rfl | rfl <;> simp [mix, psum, List.range, List.range.loop]
theorem mulL_length (a r : List Int) : (mulL a r).length = 5 := by simp [mulL]
theorem mulL_bound {a r : List Int} (ha : ∀ x ∈ a, 0 ≤ x ∧ x < 268435456) (hr : ∀ x ∈ r, 0 ≤ x ∧ x < 67108864) : ∀ x ∈ mulL a r, 0 ≤ x ∧ x < 1152921504606846976 := by
  intro x hx
  obtain ⟨j, _, rfl⟩ := List.mem_map.1 hx
  have := psum_bound ha (factors_bound hr) 5 j
  omega
def Low (n : List Int) (i b h : Nat) (rest : Int) : Prop := 26 * i = 8 * b + h ∧ lv n / 256 ^ b = rest + 2 ^ h * lv (n.drop i) ∧ 0 ≤ rest ∧ rest < 2 ^ (h + 3)
theorem Low.start (n : List Int) : Low n 0 0 0 0 := ⟨rfl, by simp, by omega, by decide⟩
theorem lv_drop (n : List Int) {i : Nat} (h : i < n.length) : lv (n.drop i) = n.getD i 0 + 67108864 * lv (n.drop (i + 1)) := by
  rw [List.drop_eq_getElem_cons h, lv, List.getD_eq_getElem?_getD, List.getElem?_eq_getElem h]
  rfl
theorem Low.limb {n : List Int} {i b h : Nat} {rest : Int} (k : Low n i b h rest) (hi : i < n.length) (hb : 0 ≤ n.getD i 0 ∧ n.getD i 0 < 268435456) : Low n (i + 1) b (h + 26) (rest + n.getD i 0 * 2 ^ h) := by
  obtain ⟨h1, h2, h3, h4⟩ := k
  rw [lv_drop n hi] at h2
  generalize n.getD i 0 = x at *
  have hp : (0 : Int) < 2 ^ h := Int.pow_pos (by omega)
  have e1 : (2 : Int) ^ (h + 26) = 2 ^ h * 67108864 := by rw [Int.pow_add]; rfl
  have e2 : (2 : Int) ^ (h + 26 + 3) = 2 ^ h * 536870912 := by rw [Nat.add_assoc, Int.pow_add]; rfl
  have e3 : (2 : Int) ^ (h + 3) = 2 ^ h * 8 := by rw [Int.pow_add]; rfl
  refine ⟨by omega, ?_, ?_, ?_⟩
  · rw [h2, e1, Int.mul_add, ← Int.mul_assoc, Int.mul_comm x, Int.add_assoc]
  · exact Int.add_nonneg h3 (Int.mul_nonneg hb.1 (by omega))
  · have : x * 2 ^ h ≤ 268435455 * 2 ^ h := Int.mul_le_mul_of_nonneg_right (by omega) (by omega)
    rw [e2]
    rw [e3] at h4
    generalize (2 : Int) ^ h = p at *
    omega
theorem Low.byte {n : List Int} {i b h : Nat} {rest : Int} (k : Low n i b h rest) (hh : 8 ≤ h) : Low n i (b + 1) (h - 8) (rest / 256) ∧ rest % 256 = lv n / 256 ^ b % 256 := by
  obtain ⟨h1, h2, h3, h4⟩ := k
  obtain ⟨h, rfl⟩ : ∃ q, h = q + 8 := ⟨h - 8, by omega⟩
  have e1 : (2 : Int) ^ (h + 8) = 256 * 2 ^ h := by rw [Int.pow_add, Int.mul_comm]; rfl
  have e2 : (2 : Int) ^ (h + 8 + 3) = 256 * 2 ^ (h + 3) := by rw [show h + 8 + 3 = h + 3 + 8 by omega, Int.pow_add, Int.mul_comm]; rfl
  rw [e1, Int.mul_assoc] at h2
  rw [e2] at h4
  rw [Nat.add_sub_cancel]
  refine ⟨⟨by omega, ?_, by omega, by omega⟩, by omega⟩
  rw [Int.pow_succ, ← Int.ediv_ediv_of_nonneg (Int.le_of_lt (Int.pow_pos (by omega) : (0 : Int) < 256 ^ b)), h2]
  omega
def chunk (m : List Int) (k : Nat) : List Int := (m.drop (16 * k)).take 16
def pieceAt (m : List Int) (k : Nat) : List Int := chunk m k ++ 1 :: List.replicate (16 - (chunk m k).length) 0
def pieces (m : List Int) : List (List Int) := (List.range (count m)).map (pieceAt m)
theorem chunk_length (m : List Int) (k : Nat) : (chunk m k).length = min 16 (m.length - 16 * k) := by simp [chunk]
theorem pieceAt_length (m : List Int) (k : Nat) : (pieceAt m k).length = 17 := by
  have := chunk_length m k
  simp [pieceAt]
  omega
theorem pieces_length (m : List Int) : (pieces m).length = count m := by simp [pieces]
theorem pieces_take (m : List Int) {k : Nat} (h : k < count m) : (pieces m).take k ++ [pieceAt m k] = (pieces m).take (k + 1) := by
  rw [List.take_succ_eq_append_getElem (by rw [pieces_length]; exact h)]
  simp [pieces]
theorem val_pieceAt (m : List Int) (k : Nat) : val (pieceAt m k) = val (chunk m k ++ [1]) := by
  have e : pieceAt m k = (chunk m k ++ [1]) ++ List.replicate (16 - (chunk m k).length) 0 := by simp [pieceAt]
  rw [e, val_append, val_zeros, Int.mul_zero, Int.add_zero]
theorem chunk_bytes {m : List Int} (h : Bs m) (k : Nat) : Bs (chunk m k) := fun z hz => h z (List.mem_of_mem_drop (List.mem_of_mem_take hz))
theorem pieceAt_bytes {m : List Int} (h : Bs m) (k : Nat) : Bs (pieceAt m k) := fun z hz => by
  rcases List.mem_append.1 hz with h1 | h1
  · exact chunk_bytes h k z h1
  · rcases List.mem_cons.1 h1 with rfl | h1
    · omega
    · rw [List.eq_of_mem_replicate h1]; omega
theorem val_chunk_lt {m : List Int} (h : Bs m) (k : Nat) : 0 ≤ val (chunk m k ++ [1]) ∧ val (chunk m k ++ [1]) < 2 ^ 129 := by
  have h1 := val_lt (chunk_bytes h k)
  have h0 := val_nonneg (xs := chunk m k) fun z hz => (chunk_bytes h k z hz).1
  have hl : (chunk m k).length ≤ 16 := by rw [chunk_length]; omega
  rw [val_append]
  have e : (256 : Int) ^ (chunk m k).length ≤ 256 ^ 16 := by
    obtain ⟨d, hd⟩ : ∃ d, 16 = (chunk m k).length + d := ⟨16 - (chunk m k).length, by omega⟩
    rw [hd, Int.pow_add]
    have h1 : (0 : Int) < 256 ^ (chunk m k).length := Int.pow_pos (by omega)
    have h2 : (0 : Int) < 256 ^ d := Int.pow_pos (by omega)
    have := Int.mul_le_mul_of_nonneg_left (show (1 : Int) ≤ 256 ^ d by omega) (Int.le_of_lt h1)
    rwa [Int.mul_one] at this
  simp only [val]
  generalize (256 : Int) ^ (chunk m k).length = N at *
  omega
def cur (m : List Int) (p : Nat) : List Int := (m.drop (16 * (p / 16))).take (p % 16) ++ List.replicate (17 - p % 16) 0
theorem cur_length {m : List Int} {p : Nat} (h : p ≤ m.length) : (cur m p).length = 17 := by simp [cur]; omega
theorem cur_start (m : List Int) {p : Nat} (h : p % 16 = 0) : cur m p = List.replicate 17 0 := by simp [cur, h]
theorem cur_last {m : List Int} (h : m.length % 16 ≠ 0) : (cur m m.length).set (m.length % 16) 1 = pieceAt m (m.length / 16) := by
  have hd := Nat.div_add_mod m.length 16
  have hlt : m.length % 16 < 16 := Nat.mod_lt _ (by omega)
  have e1 : (m.drop (16 * (m.length / 16))).take (m.length % 16) = m.drop (16 * (m.length / 16)) := List.take_of_length_le (by simp; omega)
  have e2 : chunk m (m.length / 16) = m.drop (16 * (m.length / 16)) := List.take_of_length_le (by simp; omega)
  have e3 : (m.drop (16 * (m.length / 16))).length = m.length % 16 := by simp; omega
  rw [cur, pieceAt, e1, e2, List.set_append_right _ _ (by omega), e3, Nat.sub_self, show 17 - m.length % 16 = (16 - m.length % 16) + 1 by omega, List.replicate_succ, List.set_cons_zero]
theorem cur_step {m : List Int} {p n k : Nat} (hk : k = min n (16 - p % 16)) (hn : p + n ≤ m.length) :
    (cur m p).take (p % 16) ++ (((m.drop p).take n).take k ++ (cur m p).drop (p % 16 + k)) = if p % 16 + k = 16 then chunk m (p / 16) ++ [0] else cur m (p + k) := by
  have hlt : p % 16 < 16 := Nat.mod_lt _ (by omega)
  have e1 : (cur m p).take (p % 16) = (m.drop (16 * (p / 16))).take (p % 16) := by
    rw [cur, List.take_append_of_le_length (by simp; omega), List.take_of_length_le (by simp; omega)]
  have e2 : (cur m p).drop (p % 16 + k) = List.replicate (17 - (p % 16 + k)) 0 := by
    rw [cur, List.drop_append, List.drop_of_length_le (by simp; omega), List.nil_append, List.drop_replicate]
    congr 1
    simp
    omega
  have e3 : ((m.drop (16 * (p / 16))).take (p % 16)) ++ ((m.drop p).take n).take k = (m.drop (16 * (p / 16))).take (p % 16 + k) := by
    rw [List.take_take, Nat.min_eq_left (by omega), List.take_add, List.drop_drop]
    congr 3
    omega
  rw [e1, e2, ← List.append_assoc, e3]
  split
  · rename_i h
    rw [h, chunk]
    rfl
  · rw [cur, show (p + k) / 16 = p / 16 by omega, show (p + k) % 16 = p % 16 + k by omega]
theorem pieceAt_full {m : List Int} {k : Nat} (h : 16 * (k + 1) ≤ m.length) : (chunk m k ++ [0]).set 16 1 = pieceAt m k := by
  have hl : (chunk m k).length = 16 := by rw [chunk_length]; omega
  rw [pieceAt, List.set_append_right _ _ (by omega), hl]
  rfl
theorem step_eq (r : Int) (m : List Int) (k : Nat) : acc r m (k + 1) = (acc r m k + val (pieceAt m k)) * r % modulus := by rw [val_pieceAt]; rfl
end Go.Proofs.YtjelacblnjbfgaaGreatDoor.Po
namespace Go.Proofs.YtjelacblnjbfgaaGreatDoor.Po
open Go.RowKit Mem Go.Proofs.YtjelacblnjbfgaaGreatDoor.Sum
def TabK (w : World) (g : Nat) (k : IntKind) (zs : List Int) : Prop := ∃ t fr, w.heap[g]? = some (.cells (arr k zs) t fr)
section
variable {w w' : World} {g : Nat} {k : IntKind} {zs : List Int}
theorem TabK.lt (h : TabK w g k zs) : g < w.heap.size := by obtain ⟨t, fr, h⟩ := h; exact (Array.getElem?_eq_some_iff.1 h).1
theorem TabK.below {B : Nat} (h : TabK w g k zs) (hb : Below B w w') (hg : g < B) : TabK w' g k zs := by obtain ⟨t, fr, h⟩ := h; exact ⟨t, fr, (hb.block g hg).trans h⟩
theorem TabK.cell (h : TabK w g k zs) {i : Nat} (hi : i < zs.length) : w.cell? ⟨g, i, none⟩ = some (.int k (zs.getD i 0)) := by
  obtain ⟨t, fr, h⟩ := h
  rw [cell_of_row w g i _ t fr h, arr_get _ _ hi]
theorem TabK.only {S : Nat → Prop} (h : TabK w g k zs) (ho : Only S w w') (hg : ¬ S g) : TabK w' g k zs := by
  obtain ⟨t, fr, h⟩ := h
  exact ⟨t, fr, ho.block g _ hg h rfl⟩
end
theorem tabK_of_var {P : Program} {w : World} {name : String} {g : Nat} {k : IntKind} {zs : List Int} (hg : P.globalNamed name = some g) (h : Lib.TabIs P w name k zs) : TabK w g k zs := by
  unfold Lib.TabIs World.var? at h
  rw [hg, Option.bind_some] at h
  cases hb : w.heap[g]? with
  | none => rw [hb] at h; cases h
  | some o =>
    rw [hb] at h
    cases o with
    | cells cs t fr => simp only [Option.some.injEq] at h; exact ⟨t, fr, by rw [hb, h]; rfl⟩
    | _ => cases h
section
variable {P : Program} {ops : Array Oper} {rest : List Oper} {o : Oper} {a : Act} {w : World} {Q : Exit → Act → World → Prop}
theorem wpList_arrayAt (hgd : o.guard = none) (ty : TypeId) (x : Operand) (ho : o.op = .sliceToArrayPointer ty x) (A : Option Addr) (len cap n : Nat) (e : TypeId) (hx : a.eval x = .slice A len cap) (hu : P.underlying ty = some (.array n e)) (hn : n ≤ len)
    (h : wpList P ops Q rest (a.put o.dst (.pointer A)) w) : wpList P ops Q (o :: rest) a w := by
  refine wpList_plain hgd fun K hK => ?_
  have hl : ¬ len < n := by omega
  unfold Oper.wp execOp
  simp only [ho, hx, Instr.arrayAt, Sem.run_bind, run_underlying hu, Result.andThen_ok, hl, if_false, Sem.run_pure]
  exact hK _ _ h
theorem rangeAt_row {g : Nat} {t : TypeId} {k : IntKind} {zs : List Int} (hr : Row w g t k zs) (off n : Nat) : w.rangeAt g off (((zs.drop off).take n).map (Value.int k)) := fun j v hv => by
  have hj := (List.getElem?_eq_some_iff.1 hv).1
  simp only [List.length_map, List.length_take, List.length_drop] at hj
  rw [hr.cell (by omega), ← hv]
  simp [List.getD_eq_getElem?_getD, show j < n by omega, show off + j < zs.length by omega]
theorem wpList_load_midRow (hgd : o.guard = none) (ty : TypeId) (x : Operand) (ho : o.op = .load ty x) (g off : Nat) (hx : a.eval x = .pointer (some ⟨g, off, none⟩)) (t : TypeId) (k : IntKind) (zs : List Int) (hr : Row w g t k zs) (n : Nat) (e : TypeId)
    (hu : P.underlying ty = some (.array n e)) (hi : (P.info? ty).map (·.size) = some n) (hn : off + n ≤ zs.length) (h : wpList P ops Q rest (a.put o.dst (.agg (arr k ((zs.drop off).take n)))) w) : wpList P ops Q (o :: rest) a w := by
  refine wpList_load_mid hgd ty x ho g off hx (((zs.drop off).take n).map (Value.int k)) _ (rangeAt_row hr off n) hu rfl (by rw [hi]; simp; omega) ?_
  exact h
end
theorem mask_u64 (x : Int) (n : Nat) (hx : 0 ≤ x) (hx' : x < 18446744073709551616) (hn : n ≤ 63) : bits .and .u64 x (2 ^ n - 1) = x % 2 ^ n := by
  obtain ⟨a, rfl⟩ := Int.eq_ofNat_of_zero_le hx
  have hp : (2 : Nat) ^ n ≤ 2 ^ 63 := Nat.pow_le_pow_right (by omega) hn
  have h1 : 0 < 2 ^ n := Nat.pow_pos (by omega)
  have e : ((2 : Int) ^ n - 1) = ((2 ^ n - 1 : Nat) : Int) := by
    rw [Int.natCast_sub h1, Int.natCast_pow]
    rfl
  rw [e, u64_and _ _ hx hx' (by omega) (by omega), Int.toNat_natCast, Int.toNat_natCast, Nat.and_two_pow_sub_one_eq_mod, Int.natCast_emod, Int.natCast_pow]
  rfl
theorem mask_limb (x : Int) (hx : 0 ≤ x) (hx' : x < 18446744073709551616) : bits .and .u64 x 67108863 = x % 67108864 := mask_u64 x 26 hx hx' (by omega)
theorem mask_u32 (x : Int) (n : Nat) (hx : 0 ≤ x) (hx' : x < 4294967296) (hn : n ≤ 31) : bits .and .u32 x (2 ^ n - 1) = x % 2 ^ n := by
  obtain ⟨a, rfl⟩ := Int.eq_ofNat_of_zero_le hx
  have hp : (2 : Nat) ^ n ≤ 2 ^ 31 := Nat.pow_le_pow_right (by omega) hn
  have h1 : 0 < 2 ^ n := Nat.pow_pos (by omega)
  have e : ((2 : Int) ^ n - 1) = ((2 ^ n - 1 : Nat) : Int) := by
    rw [Int.natCast_sub h1, Int.natCast_pow]
    rfl
  rw [e, u32_and _ _ hx hx' (by omega) (by omega), Int.toNat_natCast, Int.toNat_natCast, Nat.and_two_pow_sub_one_eq_mod, Int.natCast_emod, Int.natCast_pow]
  rfl
theorem mask_byte (x : Int) (hx : 0 ≤ x) (hx' : x < 4294967296) : bits .and .u32 x 255 = x % 256 := mask_u32 x 8 hx hx' (by omega)
theorem mask_two (x : Int) (hx : 0 ≤ x) (hx' : x < 4294967296) : bits .and .u32 x 3 = x % 4 := mask_u32 x 2 hx hx' (by omega)
theorem and8 : ∀ x : Fin 256, bits .and .u8 (x.val : Int) 15 = x.val % 16 ∧ bits .and .u8 (x.val : Int) 252 = x.val / 4 * 4 ∧ bits .and .u8 (x.val : Int) 255 = x.val ∧ bits .and .u8 (x.val : Int) 127 = x.val % 128 := by decide +kernel
theorem and_byte {x : Int} (h : 0 ≤ x ∧ x ≤ 255) : bits .and .u8 x 15 = x % 16 ∧ bits .and .u8 x 252 = x / 4 * 4 ∧ bits .and .u8 x 255 = x ∧ bits .and .u8 x 127 = x % 128 := by
  have := and8 ⟨x.toNat, by omega⟩
  rwa [show ((x.toNat : Nat) : Int) = x by omega] at this
def keptI : List Int := [255, 255, 255, 15, 252, 255, 255, 15, 252, 255, 255, 15, 252, 255, 255, 15]
theorem kept_get : ∀ i : Fin 16, keptI.getD i.val 0 = if i.val % 4 = 3 then 15 else if i.val = 4 ∨ i.val = 8 ∨ i.val = 12 then 252 else 255 := by decide
theorem clamp_kept {key : List Int} (h : Bs key) {i : Nat} (hi : i < 16) : bits .and .u8 (key.getD i 0) (keptI.getD i 0) = (clamp key).getD i 0 := by
  have e : (clamp key).getD i 0 = clampAt key i := by simp [clamp, List.getD_eq_getElem?_getD, hi]
  have k := kept_get ⟨i, hi⟩
  simp only at k
  have a := and_byte (h.at_ i)
  rw [e, k, clampAt]
  split
  · exact a.1
  · split
    · exact a.2.1
    · exact a.2.2.1
theorem wf_byte {z : Int} (h : 0 ≤ z ∧ z ≤ 255) : (Lit.int .u8 z).wf = true := by simp [Lit.wf, IntKind.min, IntKind.max, IntKind.signed, IntKind.bits]; omega
theorem bs_wf {zs : List Int} (h : Bs zs) : ∀ z ∈ zs, (Lit.int .u8 z).wf = true := fun z hz => wf_byte (h z hz)
theorem wf_64 {z : Int} (h : 0 ≤ z ∧ z < 18446744073709551616) : (Lit.int .u64 z).wf = true := by simp [Lit.wf, IntKind.min, IntKind.max, IntKind.signed, IntKind.bits]; omega
theorem wf_32 {z : Int} (h : 0 ≤ z ∧ z < 4294967296) : (Lit.int .u32 z).wf = true := by simp [Lit.wf, IntKind.min, IntKind.max, IntKind.signed, IntKind.bits]; omega
end Go.Proofs.YtjelacblnjbfgaaGreatDoor.Po
namespace Go.Proofs.YtjelacblnjbfgaaGreatDoor.Mem
open Go.RowKit Go.Shelf Go.Proofs.YtjelacblnjbfgaaGreatDoor.Range
section
variable {F : Fence} {n : Nat} {P : Program} {ops : Array Oper} {rest : List Oper} {o : Oper} {a : Act} {w : World} {Q : Exit → Act → World → Prop}
theorem wpListIn_store_elem (hw : Region.wanted o (yielded ops a.tmps) = true) (ty : TypeId) (x y : Operand) (ho : o.op = .store ty x y) (g i : Nat) (hx : a.eval x = .pointer (some ⟨g, i, none⟩)) (t : TypeId) (k : IntKind) (zs : List Int) (z : Int) (hy : a.eval y = .int k z)
    (hr : Row w g t k zs) (hi : i < zs.length) (hsz : (P.info? ty).map (·.size) = some 1) (hz : (Lit.int k z).wf = true)
    (h : ∀ w', Row w' g t k (zs.set i z) → w.grownBy w' (some g) → Hid (w'.heap.size = w.heap.size) → wpListIn F n P ops Q rest (a.put o.dst undef) w') : wpListIn F n P ops Q (o :: rest) a w := by
  refine wpListIn_step fun K hK => ?_
  rw [if_pos hw]
  unfold Oper.wpIn
  refine ⟨fun f hf => by simp [Oper.about, ho] at hf, ?_⟩
  rw [Oper.semAt_plain F _ _ (by rw [ho]; intro c hc'; cases hc')]
  unfold execOp
  simp only [ho, hx, hy, Instr.storeAt, Instr.sureAddr, Sem.run_bind, Sem.run_pure, Result.andThen_ok, run_store_elem ty g i _ (.int k z) (hr.cell hi) (hr.frozen i) hsz rfl rfl]
  exact hK _ _ (h _ (hr.set i hz) (grown_setCell _ _ _ _) (Lib.hid (by simp [World.setCell])))
theorem wpListIn_build_Row (hw : Region.wanted o (yielded ops a.tmps) = true) (t : TypeId) (parts : Array (Nat × Operand)) (ho : o.op = .build t parts) (k : IntKind) (zs : List Int)
    (hf : P.built t (parts.map fun (i, x) => (i, a.eval x)).toList = some (arr k zs)) (h : wpListIn F n P ops Q rest (a.put o.dst (.agg (arr k zs))) w) : wpListIn F n P ops Q (o :: rest) a w := by
  refine wpListIn_step fun K hK => ?_
  rw [if_pos hw]
  unfold Oper.wpIn
  refine ⟨fun f hf => by simp [Oper.about, ho] at hf, ?_⟩
  rw [Oper.semAt_plain F _ _ (by rw [ho]; intro c hc'; cases hc')]
  unfold execOp
  simp only [ho, Sem.run_bind, run_build w t _ _ hf, Result.andThen_ok]
  exact hK _ _ h
theorem wpListIn_copy_RowTo (hw : Region.wanted o (yielded ops a.tmps) = true) (d s : Operand) (dT sT : TypeId) (ho : o.op = .call { callee := .builtin .copy, args := #[d, s], argTypes := #[dT, sT] }) (e : TypeId) (hu : P.underlying dT = some (.slice e)) (hsz : (P.info? e).map (·.size) = some 1)
    (g off dLen dCap : Nat) (A : Option Addr) (sLen sCap : Nat) (hd : a.eval d = .slice (some ⟨g, off, none⟩) dLen dCap) (hs : a.eval s = .slice A sLen sCap)
    (t : TypeId) (k : IntKind) (cur xs : List Int) (hr : Row w g t k cur) (hx : 0 < sLen → ∃ b o2, A = some ⟨b, o2, none⟩ ∧ ∀ i, i < sLen → w.cell? ⟨b, o2 + i, none⟩ = some (.int k (xs.getD i 0))) (hxl : xs.length = sLen)
    (hxw : ∀ z ∈ xs, (Lit.int k z).wf = true) (m : Nat) (hm : m = min sLen dLen) (h0 : 0 < m) (hfit : off + m ≤ cur.length)
    (h : ∀ w', Row w' g t k (cur.take off ++ (xs.take m ++ cur.drop (off + m))) → w.grownBy w' (some g) → Hid (w'.heap.size = w.heap.size) → wpListIn F n P ops Q rest (a.put o.dst (.int .i64 (m : Int))) w') : wpListIn F n P ops Q (o :: rest) a w :=
  wpListIn_copy_Row hw d s dT sT ho e hu hsz g off dLen dCap A sLen sCap hd hs t k cur xs hr hx hxl m hm h0 hfit
    (h _ (hr.setRow fun z hz => by
      rcases List.mem_append.1 hz with h1 | h1
      · exact hr.1 z (List.mem_of_mem_take h1)
      · rcases List.mem_append.1 h1 with h1 | h1
        · exact hxw z (List.mem_of_mem_take h1)
        · exact hr.1 z (List.mem_of_mem_drop h1)) (grown_setRow _ _ _) (Lib.hid (by simp)))
theorem wpListIn_arrayAt (hw : Region.wanted o (yielded ops a.tmps) = true) (ty : TypeId) (x : Operand) (ho : o.op = .sliceToArrayPointer ty x) (A : Option Addr) (len cap m : Nat) (e : TypeId) (hx : a.eval x = .slice A len cap) (hu : P.underlying ty = some (.array m e)) (hm : m ≤ len)
    (h : wpListIn F n P ops Q rest (a.put o.dst (.pointer A)) w) : wpListIn F n P ops Q (o :: rest) a w := by
  have hl : ¬ len < m := by omega
  refine wpListIn_step fun K hK => ?_
  rw [if_pos hw]
  unfold Oper.wpIn
  refine ⟨fun f hf => by simp [Oper.about, ho] at hf, ?_⟩
  rw [Oper.semAt_plain F _ _ (by rw [ho]; intro c hc'; cases hc')]
  unfold execOp
  simp only [ho, hx, Instr.arrayAt, Sem.run_bind, run_underlying hu, Result.andThen_ok, hl, if_false, Sem.run_pure]
  exact hK _ _ h
theorem wpListIn_load_midRow (hw : Region.wanted o (yielded ops a.tmps) = true) (ty : TypeId) (x : Operand) (ho : o.op = .load ty x) (g off : Nat) (hx : a.eval x = .pointer (some ⟨g, off, none⟩)) (t : TypeId) (k : IntKind) (zs : List Int) (hr : Row w g t k zs) (m : Nat) (e : TypeId)
    (hu : P.underlying ty = some (.array m e)) (hi : (P.info? ty).map (·.size) = some m) (hn : off + m ≤ zs.length) (h : wpListIn F n P ops Q rest (a.put o.dst (.agg (arr k ((zs.drop off).take m)))) w) : wpListIn F n P ops Q (o :: rest) a w := by
  refine wpListIn_step fun K hK => ?_
  rw [if_pos hw]
  unfold Oper.wpIn
  refine ⟨fun f hf => by simp [Oper.about, ho] at hf, ?_⟩
  rw [Oper.semAt_plain F _ _ (by rw [ho]; intro c hc'; cases hc')]
  unfold execOp
  simp only [ho, hx, Instr.loadAt, Instr.sureAddr, Sem.run_bind, Sem.run_pure, Result.andThen_ok, run_loadVar_mid w g off ty (((zs.drop off).take m).map (Value.int k)) _ (Po.rangeAt_row hr off m) hu rfl (by rw [hi]; simp; omega)]
  exact hK _ _ h
end
end Go.Proofs.YtjelacblnjbfgaaGreatDoor.Mem
namespace Go.Proofs.YtjelacblnjbfgaaGreatDoor.Held
open Go.RowKit Go.Shelf Mem
def Blk (w : World) (g : Nat) (t : TypeId) (cs : Array Value) : Prop := w.heap[g]? = some (.cells cs t (0, 0))
section
variable {w w' : World} {g : Nat} {t : TypeId} {cs : Array Value}
theorem Blk.lt (h : Blk w g t cs) : g < w.heap.size := (Array.getElem?_eq_some_iff.1 h).1
theorem Blk.below {B : Nat} (h : Blk w g t cs) (hb : Below B w w') (hg : g < B) : Blk w' g t cs := (hb.block g hg).trans h
theorem Blk.after (h : Blk w g t cs) (hb : Below w.heap.size w w') : Blk w' g t cs := (hb.block g h.lt).trans h
theorem Blk.grown {row : Option Nat} (h : Blk w g t cs) (hb : w.grownBy w' row) (hg : some g ≠ row) : Blk w' g t cs := keep_cells h hb hg
theorem Blk.cell (h : Blk w g t cs) {i : Nat} {v : Value} (hv : cs[i]? = some v) : w.cell? ⟨g, i, none⟩ = some v := (cell_of_row w g i cs t (0, 0) h).trans hv
theorem Blk.frozen (h : Blk w g t cs) (i : Nat) : w.frozen? ⟨g, i, none⟩ = false := by
  unfold Blk at h
  simp [World.frozen?, h]
theorem Blk.drew (h : Blk w g t cs) : Blk w.drew g t cs := h
theorem Blk.of_row {k : IntKind} {zs : List Int} (h : Row w g t k zs) : Blk w g t (arr k zs) := h.2
theorem Blk.row {k : IntKind} {zs : List Int} (h : Blk w g t (arr k zs)) (hw : ∀ z ∈ zs, (Lit.int k z).wf = true) : Row w g t k zs := ⟨hw, h⟩
theorem Blk.set (h : Blk w g t cs) (i : Nat) (v : Value) : Blk (w.setCell ⟨g, i, none⟩ v) g t (cs.setIfInBounds i v) := by
  unfold Blk at h ⊢
  simp only [World.setCell, Array.getElem?_modify, h, if_true, Option.map_some, Obj.cells.injEq, Option.some.injEq]
  refine ⟨?_, trivial, trivial⟩
  simp
end
section
variable {P : Program} {S : World → Prop} {ρ : Operand → Value} {o : Oper}
theorem y_field {t : TypeId} {x : Operand} {b off j k m s : Nat} {fs : Array Field} (ho : o.op = .fieldAddr t x j) (hx : ρ x = .pointer (some ⟨b, off, none⟩)) (hu : P.underlying t = some (.struct fs)) (hk : (fs[j]?).map (·.offset) = some k) (hz : (fs[j]?).bind (fun f => (P.info? f.type).map (·.size)) = some (s + 1)) (hm : off + k = m) :
    ∀ w, S w → (execOp ρ o).run P w = .ok (.value (.pointer (some ⟨b, m, none⟩))) w := fun w _ => by
  obtain ⟨f, hf, rfl⟩ := Option.map_eq_some_iff.1 hk
  subst hm
  rw [hf] at hz
  obtain ⟨q, hq, h1⟩ := Option.map_eq_some_iff.1 (show (P.info? f.type).map (·.size) = some (s + 1) from hz)
  have ea : (Addr.mk b off none).add f.offset = ⟨b, off + f.offset, none⟩ := by unfold Addr.add; split <;> simp_all
  have es : (sizeOf f.type).run P w = .ok (s + 1) w := by simp [sizeOf, typeInfo, hq, h1]
  simp [execOp, ho, hx, Instr.fieldAt, Instr.sureAddr, run_underlying hu, hf, fieldPlace, ea, es]
theorem y_load_blk {ty : TypeId} {x : Operand} {b n : Nat} {t : TypeId} {cs : Array Value} {d : TypeDesc} (ho : o.op = .load ty x) (hx : ρ x = .pointer (some ⟨b, 0, none⟩)) (hu : P.underlying ty = some d) (hd : (match d with | .struct _ | .array _ _ => true | _ => false) = true) (hi : (P.info? ty).map (·.size) = some n) (hs : cs.size = n)
    (hc : ∀ w, S w → Blk w b t cs) : ∀ w, S w → (execOp ρ o).run P w = .ok (.value (.agg cs)) w := fun w hw => by
  simp only [execOp, ho, hx, Instr.loadAt, Instr.sureAddr, Sem.run_bind, Sem.run_pure, Result.andThen_ok, run_loadVar_row w b t ty cs (0, 0) d (hc w hw) hu hd (by rw [hi, hs])]
theorem y_build {t : TypeId} {parts : Array (Nat × Operand)} {cs : Array Value} (ho : o.op = .build t parts) (hf : P.built t (parts.map fun (i, x) => (i, ρ x)).toList = some cs) : ∀ w, S w → (execOp ρ o).run P w = .ok (.value (.agg cs)) w := fun w _ => by
  simp [execOp, ho, run_build w t _ cs hf]
theorem y_extract {x : Operand} {j : Nat} {vs : Array Value} {v : Value} (ho : o.op = .extract x j) (hx : ρ x = .tuple vs) (hv : vs[j]? = some v) : ∀ w, S w → (execOp ρ o).run P w = .ok (.value v) w := fun w _ => by
  simp [execOp, ho, hx, Instr.extract, hv]
end
section
variable {P : Program} {ops : Array Oper} {rest : List Oper} {o : Oper} {a : Act} {w : World} {Q : Exit → Act → World → Prop}
theorem wpList_box_blk (hw : Region.wanted o (yielded ops a.tmps) = true) (ty : TypeId) (x : Operand) (ho : o.op = .box ty x) (cs : Array Value) (hx : a.eval x = .agg cs)
    (h : ∀ w', Blk w' w.heap.size ty cs → w.grownBy w' none → Hid (w'.heap.size = w.heap.size + 1) → wpList P ops Q rest (a.put o.dst (.pointer (some ⟨w.heap.size, 0, none⟩))) w') : wpList P ops Q (o :: rest) a w :=
  wpList_step fun _ hK => by
    rw [if_pos hw]
    unfold Oper.wp execOp
    simp only [ho, hx, Sem.run_bind, Instr.box, newVar, newRow, run_newObj_alloc, Sem.run_pure, Result.andThen_ok, Value.cells]
    exact hK _ _ (h _ (heap_alloc_new w _) (World.grownBy_alloc w _ none) (Lib.hid (by simp)))
theorem run_alloc_blk (ty : TypeId) (cs : Array Value) (hz : (P.info? ty).bind (·.zero) = some (.agg cs)) (v : Value) :
    (Instr.alloc ty true v).run P w = .ok (.pointer (some ⟨w.heap.size, 0, none⟩)) (w.alloc (.cells cs ty)) := by
  obtain ⟨inf, hi, h0⟩ := Option.bind_eq_some_iff.1 hz
  simp [Instr.alloc, zeroValue, typeInfo, hi, h0, newVar, newRow, Value.cells, Result.andThen]
theorem wpList_alloc_blk (hw : Region.wanted o (yielded ops a.tmps) = true) (ty : TypeId) (ho : o.op = .alloc ty) (cs : Array Value) (hz : (P.info? ty).bind (·.zero) = some (.agg cs))
    (h : ∀ w', Blk w' w.heap.size ty cs → w.grownBy w' none → Hid (w'.heap.size = w.heap.size + 1) → wpList P ops Q rest (a.put o.dst (.pointer (some ⟨w.heap.size, 0, none⟩))) w') : wpList P ops Q (o :: rest) a w :=
  wpList_step fun _ hK => by
    rw [if_pos hw]
    unfold Oper.wp execOp
    simp only [ho, run_alloc_blk ty cs hz, Sem.run_bind, Sem.run_pure, Result.andThen_ok]
    exact hK _ _ (h _ (heap_alloc_new w _) (World.grownBy_alloc w _ none) (Lib.hid (by simp)))
theorem wpList_store_blk (hw : Region.wanted o (yielded ops a.tmps) = true) (ty : TypeId) (x y : Operand) (ho : o.op = .store ty x y) (g n : Nat) (hx : a.eval x = .pointer (some ⟨g, 0, none⟩)) (t : TypeId) (old cs : Array Value) (hy : a.eval y = .agg cs)
    (hb : Blk w g t old) (hsz : (P.info? ty).map (·.size) = some n) (hn : cs.size = n) (ho' : old.size = n) (h1 : cs.all (·.oneCell') = true)
    (h : ∀ w', Blk w' g t cs → w.grownBy w' (some g) → Hid (w'.heap.size = w.heap.size) → wpList P ops Q rest (a.put o.dst undef) w') : wpList P ops Q (o :: rest) a w :=
  wpList_step fun _ hK => by
    rw [if_pos hw]
    unfold Oper.wp execOp
    simp only [ho, hx, hy, Instr.storeAt, Instr.sureAddr, Sem.run_bind, Sem.run_pure, Result.andThen_ok, run_storeVar_row w g t ty _ cs hb (by rw [hsz, hn]) (by rw [ho', hn]) h1]
    exact hK _ _ (h _ (by unfold Blk at hb ⊢; simp [World.setRow, Array.getElem?_modify, hb]) (grown_setRow _ _ _) (Lib.hid (by simp [World.setRow])))
theorem wpList_load_blk (hw : Region.wanted o (yielded ops a.tmps) = true) (ty : TypeId) (x : Operand) (ho : o.op = .load ty x) (g n : Nat) (hx : a.eval x = .pointer (some ⟨g, 0, none⟩)) (t : TypeId) (cs : Array Value) (hb : Blk w g t cs) (d : TypeDesc) (hu : P.underlying ty = some d) (hd : (match d with | .struct _ | .array _ _ => true | _ => false) = true) (hi : (P.info? ty).map (·.size) = some n) (hn : cs.size = n)
    (h : wpList P ops Q rest (a.put o.dst (.agg cs)) w) : wpList P ops Q (o :: rest) a w :=
  wpList_step fun _ hK => by
    rw [if_pos hw]
    exact wp_load_row ty x ho g hx t cs (0, 0) d hb hu hd (by rw [hi, hn]) (hK _ _ h)
theorem wpList_build_blk (hg : o.guard = none) (t : TypeId) (parts : Array (Nat × Operand)) (ho : o.op = .build t parts) (cs : Array Value) (hf : P.built t (parts.map fun (i, x) => (i, a.eval x)).toList = some cs) (h : wpList P ops Q rest (a.put o.dst (.agg cs)) w) : wpList P ops Q (o :: rest) a w :=
  wpList_build hg t parts ho (by rw [hf]; rfl) (by rw [hf]; exact h)
theorem wpList_run (hw : Region.wanted o (yielded ops a.tmps) = true) {v : Value} (hr : (execOp a.eval o).run P w = .ok (.value v) w) (h : wpList P ops Q rest (a.put o.dst v) w) : wpList P ops Q (o :: rest) a w :=
  wpList_step fun _ hK => by
    rw [if_pos hw]
    unfold Oper.wp
    rw [hr]
    exact hK _ _ h
theorem wpList_shr (hgd : o.guard = none) (t u : TypeId) (x y : Operand) (ho : o.op = .binOp .shr t x y u) (k k' : IntKind) (v r : Int) (n : Nat) (hx : a.eval x = .int k v) (hy : a.eval y = .int k' (n : Int)) (hn : n ≤ k.bits) (hr : v / 2 ^ n = r)
    (h : wpList P ops Q rest (a.put o.dst (.int k r)) w) : wpList P ops Q (o :: rest) a w := by
  refine wpList_plain hgd fun K hK => ?_
  unfold Oper.wp execOp
  simp [ho, hx, hy, Held.run_shr t k k' n hn hr]
  exact hK _ _ h
end
theorem results_blk {P : Program} {fn : Func} {p : Tmp} {ty : TypeId} (h : fn.results = #[.cell p ty]) (tmps : Array Value) (w : World) (g n : Nat) (t : TypeId) (cs : Array Value) (hp : tmps.getD p undef = .pointer (some ⟨g, 0, none⟩))
    (hr : Blk w g t cs) (d : TypeDesc) (hu : P.underlying ty = some d) (hd : (match d with | .struct _ | .array _ _ => true | _ => false) = true) (hi : (P.info? ty).map (·.size) = some n) (hn : cs.size = n) : (results fn tmps).run P w = .ok (.agg cs) w :=
  results_cell_row h tmps w g t cs (0, 0) d hp hr hu hd (by rw [hi, hn])
theorem results_blk_tmp {P : Program} {fn : Func} {p u : Tmp} {ty : TypeId} (h : fn.results = #[.cell p ty, .tmp u]) (tmps : Array Value) (w : World) (g n : Nat) (t : TypeId) (cs : Array Value) (x : Value) (hp : tmps.getD p undef = .pointer (some ⟨g, 0, none⟩)) (hx : tmps.getD u undef = x)
    (hr : Blk w g t cs) (d : TypeDesc) (hu : P.underlying ty = some d) (hd : (match d with | .struct _ | .array _ _ => true | _ => false) = true) (hi : (P.info? ty).map (·.size) = some n) (hn : cs.size = n) : (results fn tmps).run P w = .ok (.tuple #[.agg cs, x]) w := by
  rw [results_cell_tmp h, hp, hx]
  have ha : (asAddr (.pointer (some ⟨g, 0, none⟩))).run P w = .ok ⟨g, 0, none⟩ w := by simp [asAddr]
  rw [ha]
  simp only [Result.andThen_ok]
  rw [run_loadVar_row (P := P) w g t ty cs (0, 0) d hr hu hd (by rw [hi, hn])]
  rfl
end Go.Proofs.YtjelacblnjbfgaaGreatDoor.Held
