/-
  Operations of a drawn region, one by one: min, len, s[:h] of an array, append within the room, a store into a box; what a row is to a step that touches no cells: no program here.
  copy within a region that draws its order: no program here.
  A store of one number into a block that is known whole, the new world a letter: no program here.
  More operations of a region that draws its order: the address of an element, products, shifts, bits: no program here.
  Variables of one cell, the new world a letter; a function value held against nil; what is unlike, elements of several cells, within a region that draws its order: no program here.
  A table of numbers of 32 bits, at a package-level variable's block, and what a row's condition on it gives: no program here.
  A table stays where only other blocks change: no program here.
  SHA-256 as plain functions on lists of numbers, and what is true of them: no program here.
  Numbers as bytes, and Poly1305, as plain functions: no program here.
  Numbers in limbs of 26 bits, and how they are multiplied modulo 2^130 - 5: no program here.
  Pieces, the tag's bytes, and what loops leave behind them: no program here.
  A table of numbers of any kind at a package-level variable's block; an array out of a slice, and out of the middle of a block: no program here.
  Within a fence: a store of one number into a block that is known whole, a built array, a copy, a whole array's address out of a slice, the new world a letter: no program here.
  Structs and arrays as wholes, within a region that draws its order and outside it: the address of a field, a whole value read, built, boxed, stored: no program here.
  Texts within a drawn region, and small lists of numbers as rows of their own: no program here.
  The functions of package dominohelp on bytes, each by its contract.
  More operations of a drawn region, one by one: make, append with new room, texts that are not alike; dominohelp.Bytes of like texts.
  Names, and numbers as bytes, of package keys, as plain functions: no program here.
  What a record is to the program, as plain functions; package record's one, leads, Before, Ahead, Dead, and the document's own, by their contracts.
  Package record's Dead, rowOf, record, Pick, by their contracts.
  A range over a function whose iterator makes what it hands out (new blocks), keeps no cells of its own and whose body never leaves early: what the iterator is told of the rounds, and what the loop owes: no program here.
  s[l:h] of a slice at a block's start, and what it reads as: no program here.
  Package record's words, put, number and mayBe, by their contracts.
  Package bitonic: Padded, stages, Rounds, apart, lower, by their contracts.
  Package bitonic: which stage and step a round is, and whether a pair is up, by their contracts.
  Where every activation may run, what is shown of one operation without a fence holds within a round, and within an iterator, too: no program here.
  Package bitonic's iterator over a round's pairs, by its contract: it hands out the first places, rising, each with the second one.
  dominohelp.Stops of package bitonic's iterator: told to stop behind so many pairs it hands out no more.
  A region that draws its order and in the end stores into what it has loaded: what is loaded ahead of a store that waits for it may be taken first, as long as a condition holds till that store.
  dominohelp.Seq2 of package bitonic's iterator: the first places of a round's pairs, and the second ones, as two lists of the call's own.
  dominohelp.Seq2 of package bitonic's iterator, by its contract.
  dominohelp.Plain of lists of numbers, and the document's own answers for package bitonic, by their contracts.
  The document's own answers for package bitonic: which stage and step a round is, which pairs it has, and which of them are up, by their contracts.
  The document's own answer for package bitonic: the first places of a round's pairs, and how far the second ones are, by its contract.
  What the rows' condition on math/bits' tables gives: the table of 64 numbers holds what the program's text lays.
-/
import Derived.Test.YtagcnbcmegdgmaaDoorB1
import Derived.OneCell
import Derived.Laws.Small
import Derived.Deep.MidRow
import Derived.Test.YtagcnbcmegdgmaaDoorRows
import Derived.Lib.LaidTab
import Derived.LaidMore
import Derived.Stop.Joined
import Derived.Stop.LaidErr
import Derived.WalkKit
import Derived.OpenShut
import Derived.Laws.BitsAllLaws
import Derived.Lib.EndianBits
import Derived.Laws.StructEq
import Derived.Laws.ResultCell
import Derived.Deep.OwnRows
import Derived.StillTailTactics
import Derived.Laws.Slices
import Derived.Lib.BufferOwn
set_option linter.unusedVariables false
namespace Go.Proofs.YtagcnbcmegdgmaaDoor.Held
open Go.RowKit Mem
section
variable {P : Program} {S : World → Prop} {ρ : Operand → Value} {o : Oper}
theorem y_min {x y : Operand} {k : IntKind} {a b r : Int} {ts : Array TypeId} (ho : o.op = .call { callee := .builtin .min, args := #[x, y], argTypes := ts }) (hx : ρ x = .int k a) (hy : ρ y = .int k b) (hr : (if b < a then b else a) = r) :
    ∀ w, S w → (execOp ρ o).run P w = .ok (.value (.int k r)) w := fun w _ => by
  unfold execOp
  simp [ho, resolve, invoke, builtin, hx, hy, run_min_int2, hr]
end
section
variable {P : Program} {ops : Array Oper} {Q : Exit → Act → World → Prop}
end
section
variable {F : Fence} {n : Nat} {P : Program} {ops : Array Oper} {rest : List Oper} {o : Oper} {a : Act} {w : World} {Q : Exit → Act → World → Prop}
end
theorem keep_cells {w w' : World} {g : Nat} {cs : Array Value} {t : TypeId} {fr : Nat × Nat} {row : Option Nat} (h : w.heap[g]? = some (.cells cs t fr)) (hg : w.grownBy w' row) (hr : some g ≠ row) : w'.heap[g]? = some (.cells cs t fr) :=
  (hg.block g (Array.getElem?_eq_some_iff.1 h).1 hr).trans h
end Go.Proofs.YtagcnbcmegdgmaaDoor.Held
namespace Go.Proofs.YtagcnbcmegdgmaaDoor.Held
open Go.RowKit Mem
end Go.Proofs.YtagcnbcmegdgmaaDoor.Held
namespace Go.Proofs.YtagcnbcmegdgmaaDoor.Mem
open Go.RowKit Go.Shelf
end Go.Proofs.YtagcnbcmegdgmaaDoor.Mem
namespace Go.Proofs.YtagcnbcmegdgmaaDoor.Held
open Go.RowKit Mem
section
variable {P : Program}
theorem run_addr_arr (t e : TypeId) (n g i : Nat) (k : IntKind) (ht : P.underlying t = some (.array n e)) (hs : (P.info? e).map (·.size) = some 1) (hi : i < n) (w : World) :
    (Instr.indexAt t (.pointer (some ⟨g, 0, none⟩)) (.int k (i : Int))).run P w = .ok (.pointer (some ⟨g, i, none⟩)) w := by
  have he : P.elem t = e := by simp [Program.elem, ht]
  have hl : P.arrayLen t = n := by simp [Program.arrayLen, ht]
  have hz : (sizeOf e).run P w = .ok 1 w := by
    cases hq : P.info? e with
    | none => simp [hq] at hs
    | some q => simp [hq] at hs; simp [sizeOf, typeInfo, hq, hs]
  have ea : (Addr.mk g 0 none).add i = ⟨g, i, none⟩ := by unfold Addr.add; split <;> simp_all
  rw [run_indexAt_array w t ⟨g, 0, none⟩ k (i : Int) (by rw [he, hl]; exact ht), he, hl, if_pos ⟨by omega, by omega⟩, hz]
  simp [Result.andThen, ea]
theorem run_mul (t : TypeId) (k : IntKind) {a b r : Int} (hr : k.wrap (a * b) = r) (w : World) : (binOp .mul t (.int k a) (.int k b)).run P w = .ok (.int k r) w := by simp [binOp, Op.intArith, hr]
end
section
variable {P : Program} {S : World → Prop} {ρ : Operand → Value} {o : Oper}
theorem y_addr {t : TypeId} {x ix : Operand} {u v r : Value} (ho : o.op = .indexAddr t x ix) (hx : ρ x = u) (hi : ρ ix = v) (hr : ∀ w, (Instr.indexAt t u v).run P w = .ok r w) : ∀ w, S w → (execOp ρ o).run P w = .ok (.value r) w := fun w _ => by
  simp [execOp, ho, hx, hi, hr w]
end
theorem run_bitop {P : Program} {op : BinOp} (hop : op = .xor ∨ op = .or ∨ op = .and) (t : TypeId) (k : IntKind) {a b r : Int} (hr : bits op k a b = r) (w : World) : (binOp op t (.int k a) (.int k b)).run P w = .ok (.int k r) w := by
  subst hr; rcases hop with rfl | rfl | rfl <;> simp [binOp, Op.intBits, bits]
theorem run_shr {P : Program} (t : TypeId) (k k' : IntKind) {a r : Int} (n : Nat) (hn : n ≤ k.bits) (hr : a / 2 ^ n = r) (w : World) : (binOp .shr t (.int k a) (.int k' (n : Int))).run P w = .ok (.int k r) w := by
  subst hr
  rw [binOp_shr, shift_shr k k' a (n : Int) (by omega) (by omega), Int.toNat_natCast]
  rfl
end Go.Proofs.YtagcnbcmegdgmaaDoor.Held
namespace Go.Proofs.YtagcnbcmegdgmaaDoor.Held
open Go.RowKit Mem
end Go.Proofs.YtagcnbcmegdgmaaDoor.Held
namespace Go.Proofs.YtagcnbcmegdgmaaDoor.Sha
open Go.RowKit Mem
def Tab (w : World) (g : Nat) (zs : List Int) : Prop := ∃ t fr, w.heap[g]? = some (.cells (arr .u32 zs) t fr)
section
variable {w w' : World} {g : Nat} {zs : List Int}
theorem Tab.lt (h : Tab w g zs) : g < w.heap.size := by obtain ⟨t, fr, h⟩ := h; exact (Array.getElem?_eq_some_iff.1 h).1
theorem Tab.below {B : Nat} (h : Tab w g zs) (hb : Below B w w') (hg : g < B) : Tab w' g zs := by obtain ⟨t, fr, h⟩ := h; exact ⟨t, fr, (hb.block g hg).trans h⟩
theorem Tab.cell (h : Tab w g zs) {i : Nat} (hi : i < zs.length) : w.cell? ⟨g, i, none⟩ = some (.int .u32 (zs.getD i 0)) := by
  obtain ⟨t, fr, h⟩ := h
  rw [cell_of_row w g i _ t fr h, arr_get _ _ hi]
end
end Go.Proofs.YtagcnbcmegdgmaaDoor.Sha
namespace Go.Proofs.YtagcnbcmegdgmaaDoor.Sha
open Go.RowKit Mem
theorem Tab.only {S : Nat → Prop} {w w' : World} {g : Nat} {zs : List Int} (h : Tab w g zs) (ho : Only S w w') (hg : ¬ S g) : Tab w' g zs := by
  obtain ⟨t, fr, h⟩ := h
  exact ⟨t, fr, ho.block g _ hg h rfl⟩
end Go.Proofs.YtagcnbcmegdgmaaDoor.Sha
namespace Go.Proofs.YtagcnbcmegdgmaaDoor.Sum
open Go.RowKit
def R32 (x : Int) : Prop := 0 ≤ x ∧ x < 4294967296
def addI (x y : Int) : Int := (x + y) % 4294967296
def rotI (x : Int) (n : Nat) : Int := bits .or .u32 (x / 2 ^ n) (x * 2 ^ (32 - n) % 4294967296)
def xorI (x y : Int) : Int := bits .xor .u32 x y
def andI (x y : Int) : Int := bits .and .u32 x y
def bigI (x : Int) (p q r : Nat) : Int := xorI (xorI (rotI x p) (rotI x q)) (rotI x r)
def smallI (x : Int) (p q r : Nat) : Int := xorI (xorI (rotI x p) (rotI x q)) (x / 2 ^ r)
def chI (e f g : Int) : Int := xorI g (andI e (xorI f g))
def majI (a b c : Int) : Int := xorI (xorI (andI a b) (andI a c)) (andI b c)
theorem r32_add (x y : Int) : R32 (addI x y) := by unfold R32 addI; omega
def K : List Int := [0x428a2f98, 0x71374491, 0xb5c0fbcf, 0xe9b5dba5, 0x3956c25b, 0x59f111f1, 0x923f82a4, 0xab1c5ed5,
  0xd807aa98, 0x12835b01, 0x243185be, 0x550c7dc3, 0x72be5d74, 0x80deb1fe, 0x9bdc06a7, 0xc19bf174,
  0xe49b69c1, 0xefbe4786, 0x0fc19dc6, 0x240ca1cc, 0x2de92c6f, 0x4a7484aa, 0x5cb0a9dc, 0x76f988da,
  0x983e5152, 0xa831c66d, 0xb00327c8, 0xbf597fc7, 0xc6e00bf3, 0xd5a79147, 0x06ca6351, 0x14292967,
  0x27b70a85, 0x2e1b2138, 0x4d2c6dfc, 0x53380d13, 0x650a7354, 0x766a0abb, 0x81c2c92e, 0x92722c85,
  0xa2bfe8a1, 0xa81a664b, 0xc24b8b70, 0xc76c51a3, 0xd192e819, 0xd6990624, 0xf40e3585, 0x106aa070,
  0x19a4c116, 0x1e376c08, 0x2748774c, 0x34b0bcb5, 0x391c0cb3, 0x4ed8aa4a, 0x5b9cca4f, 0x682e6ff3,
  0x748f82ee, 0x78a5636f, 0x84c87814, 0x8cc70208, 0x90befffa, 0xa4506ceb, 0xbef9a3f7, 0xc67178f2]
def nextW (ws : List Int) : Int := addI (addI (addI (smallI (ws.getD (ws.length - 2) 0) 17 19 10) (ws.getD (ws.length - 7) 0)) (smallI (ws.getD (ws.length - 15) 0) 7 18 3)) (ws.getD (ws.length - 16) 0)
def sched : Nat → List Int → List Int
  | 0, ws => ws
  | n + 1, ws => sched n (ws ++ [nextW ws])
def round (k w : Int) : List Int → List Int
  | [a, b, c, d, e, f, g, h] => [addI (addI (addI (addI (addI h (bigI e 6 11 25)) (chI e f g)) k) w) (addI (bigI a 2 13 22) (majI a b c)), a, b, c, addI d (addI (addI (addI (addI h (bigI e 6 11 25)) (chI e f g)) k) w), e, f, g]
  | v => v
def rounds (W : List Int) : Nat → List Int → List Int
  | 0, v => v
  | t + 1, v => round (K.getD t 0) (W.getD t 0) (rounds W t v)
def word (bs : List Int) (t : Nat) : Int := ((bs.getD (4 * t) 0 * 256 + bs.getD (4 * t + 1) 0) * 256 + bs.getD (4 * t + 2) 0) * 256 + bs.getD (4 * t + 3) 0
def words (bs : List Int) : List Int := (List.range 16).map (word bs)
def W (bs : List Int) : List Int := sched 48 (words bs)
def sumUp (h v : List Int) : List Int := (List.range 8).map fun i => addI (h.getD i 0) (v.getD i 0)
def block (h bs : List Int) : List Int := sumUp h (rounds (W bs) 64 h)
def Eight (v : List Int) : Prop := v.length = 8 ∧ ∀ z ∈ v, R32 z
theorem Eight.out {v : List Int} (h : Eight v) : ∃ a b c d e f g k, v = [a, b, c, d, e, f, g, k] ∧ R32 a ∧ R32 b ∧ R32 c ∧ R32 d ∧ R32 e ∧ R32 f ∧ R32 g ∧ R32 k := by
  obtain ⟨hl, hr⟩ := h
  match v, hl, hr with
  | [a, b, c, d, e, f, g, k], _, hr => exact ⟨a, b, c, d, e, f, g, k, rfl, hr _ (by simp), hr _ (by simp), hr _ (by simp), hr _ (by simp), hr _ (by simp), hr _ (by simp), hr _ (by simp), hr _ (by simp)⟩
theorem Eight.round {v : List Int} (h : Eight v) (k w : Int) : Eight (round k w v) := by
  obtain ⟨a, b, c, d, e, f, g, i, rfl, ha, hb, hc, hd, he, hf, hg, hi⟩ := h.out
  refine ⟨rfl, fun z hz => ?_⟩
  simp only [Sum.round, List.mem_cons, List.mem_nil_iff, or_false] at hz
  rcases hz with rfl | rfl | rfl | rfl | rfl | rfl | rfl | rfl
  · exact r32_add _ _
  · exact ha
  · exact hb
  · exact hc
  · exact r32_add _ _
  · exact he
  · exact hf
  · exact hg
theorem Eight.rounds {v : List Int} (h : Eight v) (W : List Int) : ∀ t, Eight (rounds W t v)
  | 0 => h
  | t + 1 => (Eight.rounds h W t).round _ _
theorem Eight.sumUp (h v : List Int) : Eight (sumUp h v) := ⟨by simp [Sum.sumUp], fun z hz => by
  simp only [Sum.sumUp, List.mem_map] at hz
  obtain ⟨i, _, rfl⟩ := hz
  exact r32_add _ _⟩
end Go.Proofs.YtagcnbcmegdgmaaDoor.Sum
namespace Go.Proofs.YtagcnbcmegdgmaaDoor.Po
open Go.Proofs.YtagcnbcmegdgmaaDoor.Sum
def val : List Int → Int
  | [] => 0
  | x :: xs => x + 256 * val xs
def carried (c : Int) : List Int → List Int
  | [] => []
  | x :: xs => (c + x) % 256 :: carried ((c + x) / 256) xs
def modulus : Int := 2 ^ 130 - 5
def step (r a : Int) (piece : List Int) : Int := (a + val (piece ++ [1])) * r % modulus
end Go.Proofs.YtagcnbcmegdgmaaDoor.Po
namespace Go.Proofs.YtagcnbcmegdgmaaDoor.Po
open Go.Proofs.YtagcnbcmegdgmaaDoor.Sum
def lv : List Int → Int
  | [] => 0
  | x :: xs => x + 67108864 * lv xs
def limbs (n : Int) : List Int := [n % 67108864, n / 67108864 % 67108864, n / 4503599627370496 % 67108864, n / 302231454903657293676544 % 67108864, n / 20282409603651670423947251286016 % 67108864]
def over (c : Int) (xs : List Int) : Nat → Int
  | 0 => c
  | k + 1 => (xs.getD k 0 + over c xs k) / 67108864
def Settled (a : List Int) : Prop := ∃ a0 a1 a2 a3 a4, a = [a0, a1, a2, a3, a4] ∧ (0 ≤ a0 ∧ a0 < 67108864) ∧ (0 ≤ a1 ∧ a1 < 67121152) ∧ (0 ≤ a2 ∧ a2 < 67108864) ∧ (0 ≤ a3 ∧ a3 < 67108864) ∧ (0 ≤ a4 ∧ a4 < 67108864)
theorem Settled.length {a : List Int} (h : Settled a) : a.length = 5 := by
  obtain ⟨_, _, _, _, _, rfl, _⟩ := h
  rfl
end Go.Proofs.YtagcnbcmegdgmaaDoor.Po
namespace Go.Proofs.YtagcnbcmegdgmaaDoor.Po
open Go.Proofs.YtagcnbcmegdgmaaDoor.Sum
def Low (n : List Int) (i b h : Nat) (rest : Int) : Prop := 26 * i = 8 * b + h ∧ lv n / 256 ^ b = rest + 2 ^ h * lv (n.drop i) ∧ 0 ≤ rest ∧ rest < 2 ^ (h + 3)
theorem Low.start (n : List Int) : Low n 0 0 0 0 := ⟨rfl, by simp, by omega, by decide⟩
def cur (m : List Int) (p : Nat) : List Int := (m.drop (16 * (p / 16))).take (p % 16) ++ List.replicate (17 - p % 16) 0
end Go.Proofs.YtagcnbcmegdgmaaDoor.Po
namespace Go.Proofs.YtagcnbcmegdgmaaDoor.Po
open Go.RowKit Mem Go.Proofs.YtagcnbcmegdgmaaDoor.Sum
def TabK (w : World) (g : Nat) (k : IntKind) (zs : List Int) : Prop := ∃ t fr, w.heap[g]? = some (.cells (arr k zs) t fr)
section
variable {w w' : World} {g : Nat} {k : IntKind} {zs : List Int}
theorem TabK.lt (h : TabK w g k zs) : g < w.heap.size := by obtain ⟨t, fr, h⟩ := h; exact (Array.getElem?_eq_some_iff.1 h).1
theorem TabK.below {B : Nat} (h : TabK w g k zs) (hb : Below B w w') (hg : g < B) : TabK w' g k zs := by obtain ⟨t, fr, h⟩ := h; exact ⟨t, fr, (hb.block g hg).trans h⟩
theorem TabK.cell (h : TabK w g k zs) {i : Nat} (hi : i < zs.length) : w.cell? ⟨g, i, none⟩ = some (.int k (zs.getD i 0)) := by
  obtain ⟨t, fr, h⟩ := h
  rw [cell_of_row w g i _ t fr h, arr_get _ _ hi]
theorem TabK.only {S : Nat → Prop} (h : TabK w g k zs) (ho : Only S w w') (hg : ¬ S g) : TabK w' g k zs := by
  obtain ⟨t, fr, h⟩ := h
  exact ⟨t, fr, ho.block g _ hg h rfl⟩
end
theorem tabK_of_var {P : Program} {w : World} {name : String} {g : Nat} {k : IntKind} {zs : List Int} (hg : P.globalNamed name = some g) (h : Lib.TabIs P w name k zs) : TabK w g k zs := by
  unfold Lib.TabIs World.var? at h
  rw [hg, Option.bind_some] at h
  cases hb : w.heap[g]? with
  | none => rw [hb] at h; cases h
  | some o =>
    rw [hb] at h
    cases o with
    | cells cs t fr => simp only [Option.some.injEq] at h; exact ⟨t, fr, by rw [hb, h]; rfl⟩
    | _ => cases h
section
variable {P : Program} {ops : Array Oper} {rest : List Oper} {o : Oper} {a : Act} {w : World} {Q : Exit → Act → World → Prop}
end
end Go.Proofs.YtagcnbcmegdgmaaDoor.Po
namespace Go.Proofs.YtagcnbcmegdgmaaDoor.Mem
open Go.RowKit Go.Shelf Go.Proofs.YtagcnbcmegdgmaaDoor.Range
section
variable {F : Fence} {n : Nat} {P : Program} {ops : Array Oper} {rest : List Oper} {o : Oper} {a : Act} {w : World} {Q : Exit → Act → World → Prop}
end
end Go.Proofs.YtagcnbcmegdgmaaDoor.Mem
namespace Go.Proofs.YtagcnbcmegdgmaaDoor.Held
open Go.RowKit Go.Shelf Mem
def Blk (w : World) (g : Nat) (t : TypeId) (cs : Array Value) : Prop := w.heap[g]? = some (.cells cs t (0, 0))
section
variable {w w' : World} {g : Nat} {t : TypeId} {cs : Array Value}
theorem Blk.lt (h : Blk w g t cs) : g < w.heap.size := (Array.getElem?_eq_some_iff.1 h).1
theorem Blk.below {B : Nat} (h : Blk w g t cs) (hb : Below B w w') (hg : g < B) : Blk w' g t cs := (hb.block g hg).trans h
theorem Blk.grown {row : Option Nat} (h : Blk w g t cs) (hb : w.grownBy w' row) (hg : some g ≠ row) : Blk w' g t cs := keep_cells h hb hg
theorem Blk.cell (h : Blk w g t cs) {i : Nat} {v : Value} (hv : cs[i]? = some v) : w.cell? ⟨g, i, none⟩ = some v := (cell_of_row w g i cs t (0, 0) h).trans hv
theorem Blk.row {k : IntKind} {zs : List Int} (h : Blk w g t (arr k zs)) (hw : ∀ z ∈ zs, (Lit.int k z).wf = true) : Row w g t k zs := ⟨hw, h⟩
theorem Blk.set (h : Blk w g t cs) (i : Nat) (v : Value) : Blk (w.setCell ⟨g, i, none⟩ v) g t (cs.setIfInBounds i v) := by
  unfold Blk at h ⊢
  simp only [World.setCell, Array.getElem?_modify, h, if_true, Option.map_some, Obj.cells.injEq, Option.some.injEq]
  refine ⟨?_, trivial, trivial⟩
  simp
end
section
variable {P : Program} {S : World → Prop} {ρ : Operand → Value} {o : Oper}
end
section
variable {P : Program} {ops : Array Oper} {rest : List Oper} {o : Oper} {a : Act} {w : World} {Q : Exit → Act → World → Prop}
theorem wpList_run (hw : Region.wanted o (yielded ops a.tmps) = true) {v : Value} (hr : (execOp a.eval o).run P w = .ok (.value v) w) (h : wpList P ops Q rest (a.put o.dst v) w) : wpList P ops Q (o :: rest) a w :=
  wpList_step fun _ hK => by
    rw [if_pos hw]
    unfold Oper.wp
    rw [hr]
    exact hK _ _ h
end
end Go.Proofs.YtagcnbcmegdgmaaDoor.Held
namespace Go.Proofs.YtagcnbcmegdgmaaDoor.Held
open Go.RowKit Mem
section
variable {P : Program} {S : World → Prop} {ρ : Operand → Value} {o : Oper}
end
section
variable {P : Program} {S : World → Prop} {ρ : Operand → Value} {o : Oper}
end
section
variable {P : Program} {ops : Array Oper} {Q : Exit → Act → World → Prop} {md : Region.Mode} {S : World → Prop}
end
end Go.Proofs.YtagcnbcmegdgmaaDoor.Held
namespace Go.Proofs.YtagcnbcmegdgmaaDoor.Help
open Go.RowKit Mem
def Still (w w' : World) : Prop := ∃ m, w' = w.drewN m
section
variable {w w' w'' : World}
theorem Still.refl (w : World) : Still w w := ⟨0, rfl⟩
theorem Still.drewN (h : Still w w') (n : Nat) : Still w (w'.drewN n) := by obtain ⟨m, rfl⟩ := h; exact ⟨m + n, by simp⟩
theorem Still.trans (h : Still w w') (k : Still w' w'') : Still w w'' := by obtain ⟨m, rfl⟩ := h; obtain ⟨n, rfl⟩ := k; exact ⟨m + n, by simp⟩
theorem Still.below (h : Still w w') (B : Nat) : Below B w w' := by obtain ⟨m, rfl⟩ := h; exact below_drewN (Below.refl _ _) m
theorem Still.size (h : Still w w') : w'.heap.size = w.heap.size := by obtain ⟨m, rfl⟩ := h; rfl
theorem Still.cell (h : Still w w') (p : Addr) : w'.cell? p = w.cell? p := by obtain ⟨m, rfl⟩ := h; rfl
theorem Still.heap (h : Still w w') : w'.heap = w.heap := by obtain ⟨m, rfl⟩ := h; rfl
theorem Still.own (h : Still w w') {base : Nat} {t : TypeId} {k : IntKind} {v : Value} {zs : List Int} (hi : Mem.Own w base t k v zs) : Mem.Own w' base t k v zs := hi.below (h.below _)
end
end Go.Proofs.YtagcnbcmegdgmaaDoor.Help
namespace Go.Proofs.YtagcnbcmegdgmaaDoor.Held
open Go.RowKit Mem
section
variable {P : Program} {ops : Array Oper} {Q : Exit → Act → World → Prop}
end
section
variable {P : Program} {S : World → Prop} {ρ : Operand → Value} {o : Oper}
end
section
variable {P : Program} {ops : Array Oper} {Q : Exit → Act → World → Prop}
end
end Go.Proofs.YtagcnbcmegdgmaaDoor.Held
namespace Go.Proofs.YtagcnbcmegdgmaaDoor.Ky
open Go.Proofs.YtagcnbcmegdgmaaDoor.Sum Po
def decN (n : Nat) : List Int := if n < 10 then [48 + (n : Int)] else decN (n / 10) ++ [48 + ((n % 10 : Nat) : Int)]
termination_by n
decreasing_by omega
def decI (v : Int) : List Int := if v < 0 then 45 :: decN (-v).toNat else decN v.toNat
def name (ph r a : Int) (t : Nat) (i : Int) : List Int := [112] ++ decI ph ++ [46, 114] ++ decI r ++ [46, 97] ++ decI a ++ [46, 116] ++ decN t ++ [46, 105] ++ decI i
end Go.Proofs.YtagcnbcmegdgmaaDoor.Ky
namespace Go.Proofs.YtagcnbcmegdgmaaDoor.Rc
open Go.RowKit Go.Shelf Go.Proofs.YtagcnbcmegdgmaaDoor Mem Help Go.Proofs.YtagcnbcmegdgmaaDoor.Sum Po Ct Go.Proofs.YtagcnbcmegdgmaaDoor.Bit Held
attribute [local irreducible] wpList wpListIn Calls
def u64 (x : Int) : Int := x % 18446744073709551616
theorem lead_eq (da db l : Bool) : bits .and .u64 (bits .xor .u64 1 (oneI da)) (bits .or .u64 (oneI db) (oneI l)) = oneI (!da && (db || l)) := by cases da <;> cases db <;> cases l <;> decide
end Go.Proofs.YtagcnbcmegdgmaaDoor.Rc
namespace Go.Proofs.YtagcnbcmegdgmaaDoor.Rc
open Go.RowKit Go.Shelf Go.Proofs.YtagcnbcmegdgmaaDoor Mem Help Go.Proofs.YtagcnbcmegdgmaaDoor.Sum Po Ct Go.Proofs.YtagcnbcmegdgmaaDoor.Bit Held
attribute [local irreducible] wpList wpListIn Calls
def numbers (d : Bool) (k v s : Int) : List Int := [oneI d, u64 k, u64 v, u64 s]
end Go.Proofs.YtagcnbcmegdgmaaDoor.Rc
namespace Go.Proofs.YtagcnbcmegdgmaaDoor.Range
open Go.RowKit
variable {F : Fence} {n : Nat} {P : Program}
end Go.Proofs.YtagcnbcmegdgmaaDoor.Range
namespace Go.Proofs.YtagcnbcmegdgmaaDoor.Mem
open Go.RowKit
end Go.Proofs.YtagcnbcmegdgmaaDoor.Mem
namespace Go.Proofs.YtagcnbcmegdgmaaDoor.Rc
open Go.RowKit Go.Shelf Go.Proofs.YtagcnbcmegdgmaaDoor Mem Help Go.Proofs.YtagcnbcmegdgmaaDoor.Sum Po Ky Ct Go.Proofs.YtagcnbcmegdgmaaDoor.Bit Held Go.Proofs.YtagcnbcmegdgmaaDoor.Range
attribute [local go_sem] Oper.semAt_some
attribute [local irreducible] wpList wpListIn Calls
theorem run_shl_ {P : Program} (t : TypeId) (k k' : IntKind) {a : Int} (n : Nat) (hn : n ≤ k.bits) (w : World) : (binOp .shl t (.int k a) (.int k' (n : Int))).run P w = .ok (.int k (k.wrap (a * 2 ^ n))) w := by
  rw [binOp_shl, shift_shl k k' a (n : Int) (by omega) (by omega), Int.toNat_natCast]
  rfl
end Go.Proofs.YtagcnbcmegdgmaaDoor.Rc
namespace Go.Proofs.YtagcnbcmegdgmaaDoor.Bi
open Go.RowKit Go.Shelf Go.Proofs.YtagcnbcmegdgmaaDoor Mem Held
attribute [local go_sem] Oper.semAt_some
attribute [local irreducible] wpList wpListIn Calls
def tzT : List Int := [0, 1, 56, 2, 57, 49, 28, 3, 61, 58, 42, 50, 38, 29, 17, 4, 62, 47, 59, 36, 45, 43, 51, 22, 53, 39, 33, 30, 24, 18, 12, 5, 63, 55, 48, 27, 60, 41, 37, 16, 46, 35, 44, 21, 52, 32, 23, 11, 54, 26, 40, 15, 34, 20, 31, 10, 25, 14, 19, 9, 13, 8, 7, 6]
def TzT (w : World) : Prop := Po.TabK w 1 .u8 tzT
theorem y_neg_ {P : Program} {S : World → Prop} {ρ : Operand → Value} {o : Oper} {t ty : TypeId} {x : Operand} {k : IntKind} {a r : Int} (ho : o.op = .unOp .neg t x) (hx : ρ x = .int k a) (hr : k.wrap (-a) = r) :
    ∀ w, S w → (execOp ρ o).run P w = .ok (.value (.int k r)) w := fun w _ => by
  subst hr
  simp [execOp, ho, hx, Op.unary, Op.intArith]
set_option maxRecDepth 100000 in
set_option maxHeartbeats 2000000 in
theorem padded_any (n : Int) (w : World) (h0 : -9223372036854775808 ≤ n) (h1 : n ≤ 9223372036854775807) :
    Calls Tryd.prog 14 #[.int .i64 n] w fun e w' => e = .returned (.int .i64 (padV n)) ∧ w = w' := by
  go_enter Tryd.func14, Tryd.ntmps14
  go_wp2_with fail
  go_loopw [3] (fun v wr => ∃ (k : Nat) (p : Int), v = .int .i64 p ∧ Hid (p = 2 ^ k) ∧ k ≤ 16 ∧ Hid (padF (16 - k) k n = padS n) ∧ w = wr) (fun v _ => (70000 - intOf v).toNat)
  case atStart => exact ⟨0, 1, rfl, Lib.hid (by simp), by omega, Lib.hid rfl, rfl⟩
  case round =>
    obtain ⟨k, p, rfl, hp, hk, hf, rfl⟩ := hrel
    have p1 : 1 ≤ p := by rw [hp.out]; exact two_pos k
    have p2 : p ≤ 65536 := by rw [hp.out]; exact two_16 hk
    by_cases c1 : p < n
    · by_cases c2 : p < 65536
      · have k16 : k < 16 := by
          rcases Nat.lt_or_ge k 16 with c | c
          · exact c
          · have : k = 16 := by omega
            have := hp.out
            subst k
            omega
        have HN := Lib.hid (show padF (16 - (k + 1)) (k + 1) n = padS n by
          rw [← hf.out, show 16 - k = (16 - (k + 1)) + 1 by omega]
          rw [hp.out] at c1
          conv => rhs; rw [padF, if_pos c1])
        have HP := Lib.hid (show p * 2 = 2 ^ (k + 1) by rw [hp.out, two_succ]; omega)
        go_wp2_with fail
        go_roundw
        case rel => exact ⟨k + 1, p * 2, by go_num, HP, by omega, HN, trivial⟩
        case measure => simp [intOf]; omega
      · have k16 : k = 16 := by
          rcases Nat.lt_or_ge k 16 with c | c
          · have := two_mono (show k ≤ 15 by omega)
            have h15 : (2 : Int) ^ 15 = 32768 := by decide
            rw [← hp.out] at this
            omega
          · omega
        have HN := Lib.hid (show p = padV n by
          have := hf.out
          rw [k16] at this
          unfold padV
          rw [← this, hp.out, k16]
          rfl)
        go_wp2_with fail
        go_ret
        exact ⟨by rw [HN.out]; rfl, rfl⟩
    · have HN := Lib.hid (show p = padV n by
        have := hf.out
        unfold padV
        rw [← this, hp.out]
        rw [hp.out] at c1
        cases hq : 16 - k with
        | zero => rfl
        | succ q => rw [padF, if_neg c1])
      go_wp2_with fail
      go_ret
      exact ⟨by rw [HN.out]; rfl, rfl⟩
theorem apart_any (t : Nat) (w : World) (h1 : 1 ≤ t) (h2 : t ≤ 16) :
    Calls Tryd.prog 23 #[.int .i64 (t : Int)] w fun e w' => e = .returned (.int .i64 (2 ^ (t - 1))) ∧ w = w' := by
  have hr := fun W : World => Rc.run_shl_ (P := Tryd.prog) 3 .i64 .i64 (a := 1) (t - 1) (by show t - 1 ≤ 64; omega) W
  have h3 := two_pos (t - 1)
  have h4 := two_16 (show t - 1 ≤ 16 by omega)
  rw [show (1 : Int) * 2 ^ (t - 1) = 2 ^ (t - 1) by omega] at hr
  obtain ⟨d, hd⟩ : ∃ d : Int, 2 ^ (t - 1) = d := ⟨_, rfl⟩
  rw [hd] at h3 h4 hr ⊢
  rw [show IntKind.i64.wrap d = d by rw [IntKind.wrap_i64]; omega] at hr
  have ht : IntKind.i64.wrap ((t : Int) - 1) = ((t - 1 : Nat) : Int) := by rw [IntKind.wrap_i64]; omega
  clear hd
  go_enter Tryd.func23, Tryd.ntmps23
  go_wp2_with (first
    | (refine Held.wpList_run (w := w) rfl (v := .int .i64 ((t - 1 : Nat) : Int)) (Held.y_int (S := fun _ => True) rfl rfl rfl (Held.run_sub 3 .i64 ht) _ trivial) ?_)
    | (refine Held.wpList_run (w := w) rfl (v := .int .i64 d) (Held.y_bin (S := fun _ => True) rfl rfl rfl (fun W => by simp [eqGuard]) hr _ trivial) ?_))
  go_ret
  exact ⟨rfl, rfl⟩
theorem lower_any (a : Int) (t : Nat) (w : World) (ha : 0 ≤ a) (ha' : a < 9223372036854775808) (h1 : 1 ≤ t) (h2 : t ≤ 16) :
    Calls Tryd.prog 22 #[.int .i64 a, .int .i64 (t : Int)] w fun e w' => e = .returned (.bool (decide (a / 2 ^ (t - 1) % 2 = 0))) ∧ w = w' := by
  have hb := bit_zero ha ha' (show t - 1 ≤ 16 by omega)
  rw [← hb]
  have HA := fun W => apart_any t W h1 h2
  obtain ⟨d, hd⟩ : ∃ d : Int, 2 ^ (t - 1) = d := ⟨_, rfl⟩
  rw [hd] at HA ⊢
  clear hd hb
  go_enter Tryd.func22, Tryd.ntmps22
  go_wp2_with fail
  refine (HA w).mono ?_
  rintro e w1 ⟨rfl, rfl⟩
  go_wp2_with (refine Held.wpList_run (w := w) rfl (v := .int .i64 (bits .and .i64 a d)) (Held.y_int (S := fun _ => True) rfl rfl rfl (Held.run_bitop (by simp) 3 .i64 rfl) _ trivial) ?_)
  go_ret
  exact ⟨Mem.ret_bool rfl, rfl⟩
theorem tz_index : ∀ s : Fin 17, (bits .and .u64 (2 ^ s.val) (IntKind.u64.wrap (-(2 ^ s.val)))) = 2 ^ s.val ∧ IntKind.u64.wrap (2 ^ s.val * 285870213051353865) / 2 ^ 58 = ((IntKind.u64.wrap (2 ^ s.val * 285870213051353865) / 2 ^ 58).toNat : Nat) ∧
    (IntKind.u64.wrap (2 ^ s.val * 285870213051353865) / 2 ^ 58).toNat < 64 ∧ tzT.getD (IntKind.u64.wrap (2 ^ s.val * 285870213051353865) / 2 ^ 58).toNat 0 = (s.val : Int) := by decide +kernel
set_option maxRecDepth 100000 in
set_option maxHeartbeats 2000000 in
theorem tz_any (s : Nat) (w : World) (hs : s ≤ 16) (hT : TzT w) :
    Calls Tryd.prog 32 #[.int .u64 (2 ^ s)] w fun e w' => e = .returned (.int .i64 (s : Int)) ∧ w = w' := by
  obtain ⟨e1, e2, e3, e4⟩ := tz_index ⟨s, by omega⟩
  simp only at e1 e2 e3 e4
  have p1 := two_pos s
  have p2 := two_16 hs
  obtain ⟨x, hx⟩ : ∃ x : Int, 2 ^ s = x := ⟨_, rfl⟩
  rw [hx] at p1 p2 e1 e2 e3 e4 ⊢
  obtain ⟨m, hm⟩ : ∃ m : Int, IntKind.u64.wrap (x * 285870213051353865) = m := ⟨_, rfl⟩
  rw [hm] at e2 e3 e4
  obtain ⟨j, hj⟩ : ∃ j : Nat, (m / 2 ^ 58).toNat = j := ⟨_, rfl⟩
  rw [hj] at e2 e3 e4
  have hc := Po.TabK.cell hT (i := j) (by simpa [tzT] using e3)
  rw [e4] at hc
  have hsh := fun W : World => Held.run_shr (P := Tryd.prog) 50 .u64 .u64 (a := m) (r := (j : Int)) 58 (by decide) e2 W
  obtain ⟨ng, hng⟩ : ∃ ng : Int, IntKind.u64.wrap (-x) = ng := ⟨_, rfl⟩
  rw [hng] at e1
  have x0 : ¬ x = 0 := by omega
  have hw : IntKind.i64.wrap (s : Int) = (s : Int) := by rw [IntKind.wrap_i64]; omega
  have hidx := fun W : World => Held.run_addr_arr (P := Tryd.prog) 52 5 64 1 j .u64 Tryd.underlying52 (by kernel_rfl) e3 W
  have HS := Lib.hid hs
  clear hs hj e2 hx p2
  go_enter Tryd.func32, Tryd.ntmps32
  go_wp2_with (first
    | (refine Held.wpList_run (w := w) rfl (v := .int .u64 ng) (y_neg_ (S := fun _ => True) rfl rfl hng _ trivial) ?_)
    | (refine Held.wpList_run (w := w) rfl (v := .int .u64 x) (Held.y_int (S := fun _ => True) rfl rfl rfl (Held.run_bitop (by simp) 50 .u64 e1) _ trivial) ?_)
    | (refine Held.wpList_run (w := w) rfl (v := .int .u64 m) (Held.y_int (S := fun _ => True) rfl rfl rfl (Held.run_mul 50 .u64 hm) _ trivial) ?_)
    | (refine Held.wpList_run (w := w) rfl (v := .int .u64 (j : Int)) (Held.y_bin (S := fun _ => True) rfl rfl rfl (fun W => by simp [eqGuard]) hsh _ trivial) ?_)
    | (refine Held.wpList_run (w := w) rfl (v := .pointer (some ⟨1, j, none⟩)) (Held.y_addr (S := fun _ => True) rfl rfl rfl hidx _ trivial) ?_)
    | (refine Held.wpList_run (w := w) rfl (v := .int .u8 (s : Int)) (Held.y_load (S := fun W => W = w) rfl rfl (by kernel_rfl) (fun W hW => by rw [hW]; exact hc) _ rfl) ?_))
  go_ret
  exact ⟨rfl, rfl⟩
theorem tzs_any (s : Nat) (w : World) (hs : s ≤ 16) (hT : TzT w) :
    Calls Tryd.prog 30 #[.int .u64 (2 ^ s)] w fun e w' => e = .returned (.int .i64 (s : Int)) ∧ w = w' := by
  have H := tz_any s w hs hT
  have p1 := two_pos s
  have p2 := two_16 hs
  obtain ⟨x, hx⟩ : ∃ x : Int, 2 ^ s = x := ⟨_, rfl⟩
  rw [hx] at p1 p2 H ⊢
  clear hx
  go_enter Tryd.func30, Tryd.ntmps30
  go_wp2_with fail
  refine H.mono ?_
  rintro e w1 ⟨rfl, rfl⟩
  go_wp2_with fail
  go_ret
  exact ⟨rfl, rfl⟩
theorem stages_any (n : Int) (w : World) (h0 : -9223372036854775808 ≤ n) (h1 : n ≤ 9223372036854775807) (hT : TzT w) :
    Calls Tryd.prog 25 #[.int .i64 n] w fun e w' => e = .returned (.int .i64 (stg n : Int)) ∧ w = w' := by
  have H := fun W => padded_any n W h0 h1
  by_cases hp : padV n = n
  · have hs : stg n = padS n := by unfold stg; rw [if_pos hp]
    have hn : n = 2 ^ padS n := hp.symm
    have HZ := tzs_any (padS n) w (padS_le n) hT
    rw [← hn] at HZ
    have p1 := two_pos (padS n)
    have p2 := two_16 (padS_le n)
    rw [← hn] at p1 p2
    rw [hp] at H
    rw [hs]
    have hwr : IntKind.u64.wrap n = n := by rw [IntKind.wrap_u64]; omega
    generalize padS n = q at *
    clear hn hp hs
    go_enter Tryd.func25, Tryd.ntmps25
    go_wp2_with fail
    refine (H w).mono ?_
    rintro e w1 ⟨rfl, rfl⟩
    go_wp2_with fail
    refine HZ.mono ?_
    rintro e w1 ⟨rfl, rfl⟩
    go_wp2_with fail
    go_ret
    exact ⟨rfl, rfl⟩
  · have hs : stg n = 0 := by unfold stg; rw [if_neg hp]
    rw [hs]
    generalize padV n = v at *
    go_enter Tryd.func25, Tryd.ntmps25
    go_wp2_with fail
    refine (H w).mono ?_
    rintro e w1 ⟨rfl, rfl⟩
    go_wp2_with fail
    go_ret
    exact ⟨rfl, rfl⟩
theorem rounds_any (n : Int) (w : World) (h0 : -9223372036854775808 ≤ n) (h1 : n ≤ 9223372036854775807) (hT : TzT w) :
    Calls Tryd.prog 12 #[.int .i64 n] w fun e w' => e = .returned (.int .i64 (tri (stg n) : Int)) ∧ w = w' := by
  have H := stages_any n w h0 h1 hT
  have h16 := stg_le n
  have htri : tri (stg n) = stg n * (stg n + 1) / 2 := rfl
  rw [htri]
  generalize stg n = q at *
  clear htri hT h0 h1
  have b : q * (q + 1) ≤ 16 * 17 := Nat.mul_le_mul h16 (by omega)
  obtain ⟨m, hm⟩ : ∃ m, q * (q + 1) = m := ⟨_, rfl⟩
  have hmul : IntKind.i64.wrap ((q : Int) * ((q : Int) + 1)) = (m : Int) := by
    rw [show (q : Int) * ((q : Int) + 1) = (m : Int) by rw [← hm]; simp, IntKind.wrap_i64]; omega
  rw [hm] at b ⊢
  clear hm
  have hq := Held.run_quo (P := Tryd.prog) 3 .i64 (a := (m : Int)) (b := 2) (r := ((m / 2 : Nat) : Int)) (by omega) (by rw [Int.tdiv_eq_ediv_of_nonneg (by omega), IntKind.wrap_i64]; omega)
  go_enter Tryd.func12, Tryd.ntmps12
  go_wp2_with fail
  refine H.mono ?_
  rintro e w1 ⟨rfl, rfl⟩
  go_wp2_with (first
    | (refine Held.wpList_run (w := w) rfl (v := .int .i64 (m : Int)) (Held.y_int (S := fun _ => True) rfl rfl rfl (Held.run_mul 3 .i64 hmul) _ trivial) ?_)
    | (refine Held.wpList_run (w := w) rfl (v := .int .i64 ((m / 2 : Nat) : Int)) (Held.y_int (S := fun _ => True) rfl rfl rfl hq _ trivial) ?_))
  go_ret
  exact ⟨rfl, rfl⟩
end Go.Proofs.YtagcnbcmegdgmaaDoor.Bi
namespace Go.Proofs.YtagcnbcmegdgmaaDoor.Bi
open Go.RowKit Go.Shelf Go.Proofs.YtagcnbcmegdgmaaDoor Mem Held
attribute [local go_sem] Oper.semAt_some
attribute [local irreducible] wpList wpListIn Calls
theorem Found.no {S : Nat} {r : Int} {s t : Nat} {ok : Bool} (h : Found S r s t ok) (hn : ¬ (0 ≤ r ∧ r < (tri S : Int))) : s = 0 ∧ t = 0 ∧ ok = false := by
  rcases h with ⟨h1, h2⟩ | ⟨h1, h2, h3, h4⟩
  · exact absurd h2.lt hn
  · exact ⟨h2, h3, h1⟩
theorem Found.yes {S : Nat} {r : Int} {s t s' t' : Nat} {ok : Bool} (h : Found S r s t ok) (ha : Stp S r s' t') : s = s' ∧ t = t' ∧ ok = true := by
  rcases h with ⟨h1, h2⟩ | ⟨h1, h2, h3, h4⟩
  · have := h2.unique ha
    exact ⟨this.1, this.2, h1⟩
  · exact absurd ha.lt h4
theorem results_tmp3 {fn : Func} {t u v : Tmp} (h : fn.results = #[.tmp t, .tmp u, .tmp v]) (tmps : Array Value) (P : Program) (w : World) :
    (results fn tmps).run P w = .ok (.tuple #[tmps.getD t undef, tmps.getD u undef, tmps.getD v undef]) w := by
  unfold results
  simp [h, go_sem]
set_option maxRecDepth 100000 in
set_option maxHeartbeats 4000000 in
theorem find_any (n r : Int) (S s t : Nat) (ok : Bool) (w : World) (h0 : -9223372036854775808 ≤ n) (h1 : n ≤ 9223372036854775807) (hT : TzT w) (hS : stg n = S) (hF : Found S r s t ok) :
    Calls Tryd.prog 21 #[.int .i64 n, .int .i64 r] w fun e w' => e = .returned (.tuple #[.int .i64 (s : Int), .int .i64 (t : Int), .bool ok]) ∧ w = w' := by
  have H := stages_any n w h0 h1 hT
  have hS16 := stg_le n
  rw [hS] at H hS16
  have HF := Lib.hid (fun hn => hF.no hn)
  have HY := Lib.hid (fun s' t' (ha : Stp S r s' t') => hF.yes ha)
  have HTS := Lib.hid tri_succ
  have HTL := Lib.hid (fun q (h : q ≤ 16) => tri_le h)
  have htri0 : (tri 0 : Int) = 0 := rfl
  clear hS hF hT h0 h1
  go_enter Tryd.func21, Tryd.ntmps21
  go_wp2_with fail
  apply wp_scope_straight
  go_wp2_with fail
  refine H.mono ?_
  rintro e w1 ⟨rfl, rfl⟩
  go_wp2_with fail
  apply wp_label
  go_wp2_with fail
  go_loopw [4, 5, 6, 7, 9] (fun x4 x5 x6 rd sv wr => ∃ q tq : Nat, x4 = .int .i64 0 ∧ x5 = .int .i64 0 ∧ x6 = .bool false ∧ rd = .int .i64 (tq : Int) ∧ Hid (tq = tri q) ∧ sv = .int .i64 ((q : Int) + 1) ∧ q ≤ S ∧ Hid (¬ (0 ≤ r ∧ r < (tri q : Int))) ∧ w = wr) (fun _ _ _ rd sv _ => (20 - intOf sv).toNat)
  case atStart => exact ⟨0, 0, rfl, rfl, rfl, by simp, Lib.hid rfl, rfl, by omega, Lib.hid (by rw [htri0]; omega), rfl⟩
  case round =>
    obtain ⟨q, tq, rfl, rfl, rfl, rfl, htq, rfl, hq, hr, rfl⟩ := hrel
    have htb : tq ≤ 136 := by rw [htq.out]; exact HTL.out q (by omega)
    by_cases hlt : q < S
    · have hlt' : (q : Int) + 1 ≤ (S : Int) := by omega
      go_wp2_with fail
      go_loopw [4, 5, 6, 7, 10] (fun x4 x5 x6 rd tv wr => ∃ j u : Nat, x4 = .int .i64 0 ∧ x5 = .int .i64 0 ∧ x6 = .bool false ∧ rd = .int .i64 (u : Int) ∧ Hid (u = tri q + (q + 1 - j)) ∧ u ≤ 200 ∧ tv = .int .i64 (j : Int) ∧ j ≤ q + 1 ∧ Hid (¬ (0 ≤ r ∧ r < (u : Int))) ∧ w = wr) (fun _ _ _ _ tv _ => (intOf tv).toNat)
      case atStart => exact ⟨q + 1, tq, rfl, rfl, rfl, rfl, Lib.hid (by rw [htq.out]; omega), by omega, by go_num, by omega, Lib.hid (by rw [htq.out]; exact hr.out), rfl⟩
      case round =>
        obtain ⟨j, u, rfl, rfl, rfl, rfl, hu, hu2, rfl, hj, hru, rfl⟩ := hrel
        by_cases hj1 : 1 ≤ j
        · have hj1' : (1 : Int) ≤ (j : Int) := by omega
          by_cases hur : (u : Int) = r
          · obtain ⟨e1, e2, e3⟩ := HY.out (q + 1) j ⟨hj1, hj, hlt, by rw [← hur, hu.out]; simp⟩
            have hd : decide ((u : Int) = r) = true := by simp [hur]
            subst e1 e2 e3
            go_wp2_with fail
            exact bodyPost_ret (results_tmp3 rfl _ _ _) rfl ⟨by simp, rfl⟩
          · go_wp2_with fail
            go_roundw
            case rel => exact ⟨j - 1, u + 1, rfl, rfl, rfl, by go_num, Lib.hid (by rw [hu.out]; omega), by have := hu.out; have := htq.out; omega, by go_num, by omega, Lib.hid (by have := hru.out; omega), trivial⟩
            case measure => simp [intOf]; omega
        · have hj0 : j = 0 := by omega
          subst hj0
          have HT := Lib.hid (show u = tri (q + 1) by rw [hu.out, HTS.out]; omega)
          go_wp2_with fail
          go_roundw
          case rel => exact ⟨q + 1, u, rfl, rfl, rfl, rfl, HT, by go_num, by omega, Lib.hid (by rw [← HT.out]; exact hru.out), trivial⟩
          case measure => simp [intOf]; omega
    · obtain rfl : q = S := by omega
      obtain ⟨rfl, rfl, rfl⟩ := HF.out hr.out
      go_wp2_with fail
      exact bodyPost_ret (results_tmp3 rfl _ _ _) rfl ⟨rfl, rfl⟩
theorem Found.t1 {S : Nat} {r : Int} {s t : Nat} {ok : Bool} (h : Found S r s t ok) (h16 : S ≤ 16) (ho : ok = true) : 1 ≤ t ∧ t ≤ s ∧ s ≤ 16 := by
  rcases h with ⟨_, h2⟩ | ⟨h1, _⟩
  · exact ⟨h2.t1, h2.ts, Nat.le_trans h2.sS h16⟩
  · rw [ho] at h1; cases h1
set_option maxRecDepth 100000 in
set_option maxHeartbeats 4000000 in
theorem up_any (n r a : Int) (S s t : Nat) (ok : Bool) (w : World) (h0 : -9223372036854775808 ≤ n) (h1 : n ≤ 9223372036854775807) (ha0 : -9223372036854775808 ≤ a) (ha1 : a ≤ 9223372036854775807) (hT : TzT w) (hS : stg n = S) (hF : Found S r s t ok) :
    Calls Tryd.prog 17 #[.int .i64 n, .int .i64 r, .int .i64 a] w fun e w' => e = .returned (.bool (upV n s t ok a)) ∧ w = w' := by
  have H := find_any n r S s t ok w h0 h1 hT hS hF
  have h16 := stg_le n
  rw [hS] at h16
  have ht := hF.t1 h16
  clear hF hT hS
  cases ok with
  | false =>
    have hv : upV n s t false a = false := by simp [upV]
    rw [hv]
    go_enter Tryd.func17, Tryd.ntmps17
    go_wp2_with fail
    refine H.mono ?_
    rintro e w1 ⟨rfl, rfl⟩
    go_wp2_with fail
    go_ret
    exact ⟨rfl, rfl⟩
  | true =>
    obtain ⟨t1, t2, t3⟩ := ht rfl
    by_cases c0 : a < 0
    · have hv : upV n s t true a = false := by simp [upV]; intro h; omega
      rw [hv]
      go_enter Tryd.func17, Tryd.ntmps17
      go_wp2_with fail
      refine H.mono ?_
      rintro e w1 ⟨rfl, rfl⟩
      go_wp2_with fail
      go_ret
      exact ⟨rfl, rfl⟩
    by_cases c1 : n ≤ a
    · have hv : upV n s t true a = false := by simp [upV]; intro h h'; omega
      rw [hv]
      go_enter Tryd.func17, Tryd.ntmps17
      go_wp2_with fail
      refine H.mono ?_
      rintro e w1 ⟨rfl, rfl⟩
      go_wp2_with fail
      go_ret
      exact ⟨rfl, rfl⟩
    have HL := lower_any a t w (by omega) (by omega) t1 (by omega)
    have hv : upV n s t true a = (decide (a / 2 ^ (t - 1) % 2 = 0) && decide (a / 2 ^ s % 2 = 0)) := by
      have e1 : decide (0 ≤ a) = true := by simp; omega
      have e2 : decide (a < n) = true := by simp; omega
      unfold upV
      rw [e1, e2]
      simp
    have hsh := fun W : World => Held.run_shr (P := Tryd.prog) 3 .i64 .i64 (a := a) (r := a / 2 ^ s) s (by show s ≤ 64; omega) rfl W
    have hq0 : 0 ≤ a / 2 ^ s := Int.ediv_nonneg (by omega) (by have := two_pos s; omega)
    have hq1 : a / 2 ^ s < 9223372036854775808 := by
      have := Int.ediv_le_self (2 ^ s) (show 0 ≤ a by omega)
      omega
    have hb := bit_one hq0 hq1
    rw [hv, ← hb]
    obtain ⟨lw, hlw⟩ : ∃ b : Bool, decide (a / 2 ^ (t - 1) % 2 = 0) = b := ⟨_, rfl⟩
    rw [hlw] at HL ⊢
    generalize a / 2 ^ s = q at *
    clear hlw hb hv
    cases lw with
    | false =>
      go_enter Tryd.func17, Tryd.ntmps17
      go_wp2_with fail
      refine H.mono ?_
      rintro e w1 ⟨rfl, rfl⟩
      go_wp2_with fail
      refine HL.mono ?_
      rintro e w1 ⟨rfl, rfl⟩
      go_wp2_with fail
      go_ret
      exact ⟨rfl, rfl⟩
    | true =>
      go_enter Tryd.func17, Tryd.ntmps17
      go_wp2_with fail
      refine H.mono ?_
      rintro e w1 ⟨rfl, rfl⟩
      go_wp2_with fail
      refine HL.mono ?_
      rintro e w1 ⟨rfl, rfl⟩
      go_wp2_with (first
        | (refine Held.wpList_run (w := w) rfl (v := .int .i64 q) (Held.y_bin (S := fun _ => True) rfl rfl rfl (fun W => by simp [eqGuard]) hsh _ trivial) ?_)
        | (refine Held.wpList_run (w := w) rfl (v := .int .i64 (bits .and .i64 q 1)) (Held.y_int (S := fun _ => True) rfl rfl rfl (Held.run_bitop (by simp) 3 .i64 rfl) _ trivial) ?_))
      go_ret
      exact ⟨Mem.ret_bool rfl, rfl⟩
theorem awake13_any (w : World) (hT : TzT w) : Calls Tryd.prog 11 #[] w fun e w' => e = .returned (.bool true) ∧ w = w' := by
  have H1 := rounds_any 4 w (by omega) (by omega) hT
  have H2 := padded_any 5 w (by omega) (by omega)
  have h4 : stg 4 = 2 := by decide
  have h5 : padV 5 = 8 := by decide
  have H3 := up_any 4 0 0 2 1 1 true w (by omega) (by omega) (by omega) (by omega) hT h4 (.inl ⟨rfl, by omega, by omega, by omega, by decide⟩)
  rw [h4, show tri 2 = 3 from rfl] at H1
  rw [h5] at H2
  rw [show upV 4 1 1 true 0 = true by decide] at H3
  go_enter Tryd.func11, Tryd.ntmps11
  go_wp2_with fail
  refine H1.mono ?_
  rintro e w1 ⟨rfl, rfl⟩
  go_wp2_with fail
  refine H2.mono ?_
  rintro e w1 ⟨rfl, rfl⟩
  go_wp2_with fail
  refine H3.mono ?_
  rintro e w1 ⟨rfl, rfl⟩
  go_wp2_with fail
  go_ret
  exact ⟨rfl, rfl⟩
end Go.Proofs.YtagcnbcmegdgmaaDoor.Bi
namespace Go.Proofs.YtagcnbcmegdgmaaDoor.Held
open Go.RowKit
section
variable {P : Program} {ops : Array Oper} {Q Q' : Exit → Act → World → Prop} {n : Nat} {r : Option Nat} {rest : List Oper} {o : Oper} {a : Act} {w : World}
end
end Go.Proofs.YtagcnbcmegdgmaaDoor.Held
namespace Go.Proofs.YtagcnbcmegdgmaaDoor.Bi
open Go.RowKit Go.Shelf Go.Proofs.YtagcnbcmegdgmaaDoor Mem Held Go.Proofs.YtagcnbcmegdgmaaDoor.Range
attribute [local go_sem] Oper.semAt_some
attribute [local irreducible] wpList wpListIn Calls
theorem Found.is {n : Int} {r : Int} {s t : Nat} {ok : Bool} (h : Found (stg n) r s t ok) (ho : ok = true) : n = ((2 ^ stg n : Nat) : Int) ∧ 1 ≤ t ∧ t ≤ s ∧ s ≤ stg n ∧ stg n ≤ 16 := by
  have h16 := stg_le n
  rcases h with ⟨_, h2⟩ | ⟨h1, _⟩
  · have := h2.t1
    have := h2.ts
    have := h2.sS
    rcases stg_is n with e | ⟨e, _⟩
    · exact ⟨by rw [← two_nat]; exact e, by omega, by omega, by omega, h16⟩
    · omega
  · rw [ho] at h1; cases h1
end Go.Proofs.YtagcnbcmegdgmaaDoor.Bi
namespace Go.Proofs.YtagcnbcmegdgmaaDoor.Bi
open Go.RowKit Go.Shelf Go.Proofs.YtagcnbcmegdgmaaDoor Mem Held Go.Proofs.YtagcnbcmegdgmaaDoor.Range
attribute [local go_sem] Oper.semAt_some
attribute [local irreducible] wpList wpListIn Calls
end Go.Proofs.YtagcnbcmegdgmaaDoor.Bi
namespace Go.Proofs.YtagcnbcmegdgmaaDoor.Held
open Go.RowKit
section
variable {P : Program} {ops : Array Oper} {Q : Exit → Act → World → Prop} {md : Region.Mode} {T : World → Prop} {s : Nat}
end
end Go.Proofs.YtagcnbcmegdgmaaDoor.Held
namespace Go.Proofs.YtagcnbcmegdgmaaDoor.Bi
open Go.RowKit Go.Shelf Go.Proofs.YtagcnbcmegdgmaaDoor Mem Held Go.Proofs.YtagcnbcmegdgmaaDoor.Range
attribute [local go_sem] Oper.semAt_some
attribute [local irreducible] wpList wpListIn Calls
theorem own_obj {w : World} {base : Nat} {t : TypeId} {k : IntKind} {v : Value} {zs : List Int} (h : Mem.Own w base t k v zs) {b : Nat} (e : v.ownBlock = some b) : ∃ cs fz, w.heap[b]? = some (.cells cs t fz) := by
  rcases h.2.2 with ⟨rfl, _⟩ | ⟨g, cap, cur, rfl, hb, hg, _⟩
  · simp [Value.ownBlock] at e
  · simp [Value.ownBlock] at e
    subst e
    exact ⟨_, _, hg⟩
theorem own_ne {w : World} {base : Nat} {t : TypeId} {k : IntKind} {v : Value} {zs : List Int} (h : Mem.Own w base t k v zs) {row : Option Nat} (hr : ∀ r, row = some r → ∃ o : Obj, w.heap[r]? = some o ∧ o.isCells = false) : v.ownBlock = none ∨ v.ownBlock ≠ row := by
  cases hq : v.ownBlock with
  | none => exact .inl rfl
  | some b =>
    refine .inr fun e => ?_
    obtain ⟨o, ho, hc⟩ := hr b e.symm
    obtain ⟨cs, fz, h2⟩ := own_obj h hq
    rw [h2] at ho
    cases ho
    cases hc
structure Two (w V : World) (B gx gy : Nat) (ux uy vx vy : Value) (xs ys : List Int) (W : World) : Prop where
  lx : gx < B
  ly : gy < B
  ne : gx ≠ gy
  hx : w.heap.size ≤ gx
  hy : w.heap.size ≤ gy
  cx : W.heap[gx]? = some (.cells #[ux] 25 (0, 0))
  cy : W.heap[gy]? = some (.cells #[uy] 25 (0, 0))
  ox : Mem.Own W B 3 .i64 vx xs
  oy : Mem.Own W B 3 .i64 vy ys
  ap : ∀ b, vx.ownBlock = some b → vy.ownBlock ≠ some b
  low : ∀ b, b < B → b ≠ gx → b ≠ gy → W.heap[b]? = V.heap[b]?
  bel : Below w.heap.size w W
  sz : B ≤ W.heap.size
section
variable {w V W W' : World} {B gx gy : Nat} {ux uy vx vy : Value} {xs ys : List Int}
theorem Two.keep (h : Two w V B gx gy ux uy vx vy xs ys W) {row : Option Nat} (hg : W.grownBy W' row) (hr : ∀ r, row = some r → B ≤ r ∧ ∃ o : Obj, W.heap[r]? = some o ∧ o.isCells = false) : Two w V B gx gy ux uy vx vy xs ys W' := by
  have hne : ∀ i, i < B → some i ≠ row := fun i hi e => by have := (hr i e.symm).1; omega
  have hr2 := fun r e => (hr r e).2
  refine ⟨h.lx, h.ly, h.ne, h.hx, h.hy, Held.keep_cells h.cx hg (hne _ h.lx), Held.keep_cells h.cy hg (hne _ h.ly), h.ox.kept hg (own_ne h.ox hr2), h.oy.kept hg (own_ne h.oy hr2), h.ap, fun b hb h1 h2 => ?_, h.bel.grown hg (by have := h.sz; have := h.hx; have := h.lx; omega) (fun r e => by have := (hr r e).1; have := h.hx; have := h.lx; omega), Nat.le_trans h.sz hg.size⟩
  exact (hg.block b (Nat.lt_of_lt_of_le hb h.sz) (hne b hb)).trans (h.low b hb h1 h2)
end
section
variable {P : Program} {ops : Array Oper} {Q : Exit → Act → World → Prop}
end
end Go.Proofs.YtagcnbcmegdgmaaDoor.Bi
namespace Go.Proofs.YtagcnbcmegdgmaaDoor.Bi
open Go.RowKit Go.Shelf Go.Proofs.YtagcnbcmegdgmaaDoor Mem Held Go.Proofs.YtagcnbcmegdgmaaDoor.Range
attribute [local go_sem] Oper.semAt_some
attribute [local irreducible] wpList wpListIn Calls
def xsOf (l : List Nat) : List Int := l.map fun (a : Nat) => (a : Int)
def ysOf (t : Nat) (l : List Nat) : List Int := l.map fun (a : Nat) => (a : Int) + 2 ^ (t - 1)
def I2 (w V : World) (B gx gy t : Nat) (pre : List Nat) (W : World) : Prop := ∃ vx vy, Two w V B gx gy vx vy vx vy (xsOf pre) (ysOf t pre) W
theorem I2.from (w V : World) (B gx gy t : Nat) : OwnFrom B (I2 w V B gx gy t) := fun pre W W' row h hg hr => by
  obtain ⟨vx, vy, h⟩ := h
  exact ⟨vx, vy, h.keep hg hr⟩
end Go.Proofs.YtagcnbcmegdgmaaDoor.Bi
namespace Go.Proofs.YtagcnbcmegdgmaaDoor.Bi
open Go.RowKit Go.Shelf Go.Proofs.YtagcnbcmegdgmaaDoor Mem Held Help Go.Proofs.YtagcnbcmegdgmaaDoor.Range
attribute [local go_sem] Oper.semAt_some
attribute [local irreducible] wpList wpListIn Calls
end Go.Proofs.YtagcnbcmegdgmaaDoor.Bi
namespace Go.Proofs.YtagcnbcmegdgmaaDoor.Bi
open Go.RowKit Go.Shelf Go.Proofs.YtagcnbcmegdgmaaDoor Mem Held Help Go.Proofs.YtagcnbcmegdgmaaDoor.Range
attribute [local go_sem] Oper.semAt_some
attribute [local irreducible] wpList wpListIn Calls
section
variable {P : Program} {S : World → Prop} {ρ : Operand → Value} {o : Oper} {t ty : TypeId} {x y : Operand} {k k' : IntKind} {r : Int}
theorem y_quo (a b : Int) (ho : o.op = .binOp .quo t x y ty) (hx : ρ x = .int k a) (hy : ρ y = .int k b) (hr : ∀ w : World, (binOp .quo t (.int k a) (.int k b)).run P w = .ok (.int k r) w) : ∀ w, S w → (execOp ρ o).run P w = .ok (.value (.int k r)) w := Held.y_int ho hx hy hr
end
end Go.Proofs.YtagcnbcmegdgmaaDoor.Bi
namespace Go.Proofs.YtagcnbcmegdgmaaDoor.Bi
open Go.RowKit Go.Shelf Go.Proofs.YtagcnbcmegdgmaaDoor Mem Held Help Go.Proofs.YtagcnbcmegdgmaaDoor.Range
attribute [local go_sem] Oper.semAt_some
attribute [local irreducible] wpList wpListIn Calls
end Go.Proofs.YtagcnbcmegdgmaaDoor.Bi
namespace Go.Proofs.YtagcnbcmegdgmaaDoor.Bi
open Go.RowKit Go.Proofs.YtagcnbcmegdgmaaDoor Mem
set_option maxRecDepth 100000
theorem rng {z : Int} (h : (Lit.int .i64 z).wf = true) : -9223372036854775808 ≤ z ∧ z ≤ 9223372036854775807 := by
  simp [Lit.wf, IntKind.min, IntKind.max, IntKind.signed, IntKind.bits] at h
  omega
def biLaid : List (String × DataW Unit) := [("math/bits.deBruijn32tab", Rows.laid_math_bits_deBruijn32tab), ("math/bits.deBruijn64tab", Rows.laid_math_bits_deBruijn64tab)]
theorem bits_of_laid {w : World} (h : laidMetH Tryd.prog biLaid w) : TzT w := by
  rw [MakeChecks.laidMetH_plain _ _ _ (by kernel_rfl)] at h
  have h2 : Lib.TabIs Tryd.prog w "math/bits.deBruijn64tab" .u8 tzT := Lib.tabIs_of_head (e := 5) (n := 64) (zs := tzT) (t := 52) (g := 1) (by kernel_rfl) (by kernel_rfl) Tryd.underlying52 Tryd.underlying5 (by kernel_rfl) (by kernel_rfl) (laidMet.tail h)
  exact Po.tabK_of_var (by kernel_rfl) h2
end Go.Proofs.YtagcnbcmegdgmaaDoor.Bi
