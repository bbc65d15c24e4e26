/-
  Package pipe's Run by its contract, told as the document tells a job: by rising keys, each with its values folded in the order in which they came, and finished.
  The document's own answer for package bitonic: the first places of a round's pairs, and how far the second ones are, by its contract.
  What the rows' condition on math/bits' tables gives: the table of 64 numbers holds what the program's text lays.
-/
import Derived.Test.YtlinmcgmkpkpaaaDoorB21
import Derived.Test.YtlinmcgmkpkpaaaDoorB12
import Derived.Test.YtlinmcgmkpkpaaaDoorB9
import Derived.Lib.LaidTab
import Derived.LaidMore
import Derived.Stop.Joined
import Derived.Stop.LaidErr
set_option linter.unusedVariables false
namespace Go.Proofs.YtlinmcgmkpkpaaaDoor.Pi
open Go.RowKit Go.Shelf Mem Held Ct Rc Rs Sl Vm Sp Mg
attribute [local irreducible] wpList wpListIn Calls
theorem cap_of (r k b S : Nat) (hb : 1 ≤ b) (h : (k : Int) * inI (r : Int) (b : Int) < ((2 ^ S : Nat) : Int)) : r * k < 2 ^ S * b := by
  rcases Nat.eq_zero_or_pos r with h0 | h0
  · subst h0
    have := Nat.two_pow_pos S
    rw [Nat.zero_mul]
    exact Nat.mul_pos this (by omega)
  have e : inI (r : Int) (b : Int) = (((r + b - 1) / b : Nat) : Int) := by
    unfold inI
    rw [Int.natCast_ediv]
    congr 1
    omega
  rw [e, ← Int.natCast_mul] at h
  have h : k * ((r + b - 1) / b) < 2 ^ S := by exact_mod_cast h
  have h1 := Nat.div_add_mod (r + b - 1) b
  have h2 := Nat.mod_lt (r + b - 1) (show b > 0 by omega)
  generalize (r + b - 1) / b = q at *
  have h3 : r ≤ b * q := by omega
  have h4 : r * k ≤ b * q * k := Nat.mul_le_mul_right k h3
  have h5 : b * q * k = k * q * b := by rw [Nat.mul_assoc, Nat.mul_comm, Nat.mul_comm q k]
  have h6 : k * q * b < 2 ^ S * b := Nat.mul_lt_mul_of_pos_right h (by omega)
  omega
set_option maxHeartbeats 4000000 in
theorem run_told (B k b n : Nat) (wk : Int) (A1 A2 A3 A : Option Addr) (n1 c1 n2 c2 n3 c3 c : Nat) (m f fi : List O) (ps : List (Int × Int)) (w : World)
    (h1 : Lst kO w B A1 n1 m) (h2 : Lst kO w B A2 n2 f) (h3 : Lst kO w B A3 n3 fi) (hp : Lst kP w B A n ps) (hB : B ≤ w.heap.size) (hC : checkB (k : Int) m f fi = true) (hR : rightB (n : Int) (k : Int) (b : Int) wk = true) (hT : Bi.TzT w) :
    Calls Tryd.prog 9 #[.agg #[.int .i64 (k : Int), .slice A1 n1 c1, .slice A2 n2 c2, .slice A3 n3 c3], .agg #[.int .i64 (n : Int), .int .i64 (k : Int), .int .i64 (b : Int), .int .i64 wk], .slice A n c] w fun e w' => ∃ v X, e = .returned (.tuple #[v, .int .i64 0]) ∧ OwnL kP 39 w' w.heap.size v (X.map fun p => (p.1, finishV (k : Int) m f fi p.1 p.2)) ∧
      (∀ x ∈ X.map fun p => (p.1, finishV (k : Int) m f fi p.1 p.2), pwf x) ∧ IsTold (foldV (k : Int) m f fi) (Sp.live (k : Int) m f fi ps) X ∧ Below w.heap.size w w' := by
  obtain ⟨S, hS1, hS5, hM, hS, hk⟩ := all_says hR
  obtain ⟨⟨_, hn⟩, _, ⟨hb1, _⟩, _, _⟩ := right_says hR
  have hL := cap_of n k b S (by omega) hk
  obtain ⟨X, hX, hX2⟩ := pipe_told (ps := ps) (m := m) (f := f) (e := fi) (K := k) (B := b) (S := S) hC (by omega) (by rw [hp.1]; omega) (by rw [hp.1]; exact hL)
  refine (run_ok B k b S (Bi.tri S) wk A1 A2 A3 A n1 c1 n2 c2 n3 c3 n c m f fi ps w h1 h2 h3 hp hB hC hR hM hS5 rfl hL hT).mono ?_
  rintro e w' ⟨v, rfl, o1, w1, b1⟩
  rw [hX2] at o1 w1
  exact ⟨v, X, rfl, o1, w1, hX, b1⟩
theorem told_none {F : Int → Int → Int} {L : List R} {X : List (Int × Int)} (h : IsTold F L X) (hL : L = []) : X = [] := by
  subst hL
  cases X with
  | nil => rfl
  | cons p X => exact absurd ((h.mem p).1 (by simp)) (by simp [valsOf, val])
theorem live_none {K : Int} {m f e : List O} {ps : List (Int × Int)} (h : ∀ i key v, ∀ x ∈ mapR K m f e i key v, x.d = true) : Sp.live K m f e ps = [] := by
  unfold Sp.live Sp.liveTo
  rw [List.flatMap_eq_nil_iff]
  intro i _
  unfold Sp.liveAt
  rw [List.filter_eq_nil_iff]
  intro x hx
  simp [h _ _ _ x hx]
def OD : O := ⟨12, 0, 0, 1, 7, 0⟩
theorem OD_wf : ∀ o ∈ [OD], o.wf := fun o ho => by rw [List.mem_singleton.1 ho]; exact ⟨rfl, rfl, rfl, rfl, rfl, rfl⟩
theorem none_check : ∀ k : Nat, 1 ≤ k → k ≤ 2 → checkB (k : Int) [] [] [] = true := fun k h1 h2 => by
  rcases (show k = 1 ∨ k = 2 by omega) with rfl | rfl <;> decide +kernel
theorem dead_check : ∀ k : Nat, 1 ≤ k → k ≤ 2 → checkB (k : Int) [OD] [] [] = true := fun k h1 h2 => by
  rcases (show k = 1 ∨ k = 2 by omega) with rfl | rfl <;> decide +kernel
theorem none_live (k : Nat) (ps : List (Int × Int)) : Sp.live (k : Int) [] [] [] ps = [] := live_none fun i key v x hx => by
  unfold mapR at hx
  split at hx
  · rw [List.eq_of_mem_replicate hx]; rfl
  · cases hx
theorem dead_live (k : Nat) (ps : List (Int × Int)) : Sp.live (k : Int) [OD] [] [] ps = [] := live_none fun i key v x hx => by
  unfold mapR at hx
  split at hx
  · have hx : x ∈ (List.replicate ((k : Int)).toNat RD).set 0 RD := hx
    rcases List.mem_or_eq_of_mem_set hx with hx | rfl
    · rw [List.eq_of_mem_replicate hx]; rfl
    · rfl
  · cases hx
theorem jb_34 (Z : Nat → Value) (K : Int) (A1 : Option Addr) (n1 c1 : Nat) (A2 : Option Addr) (n2 c2 : Nat) (A3 : Option Addr) (n3 c3 : Nat) (r k b wk : Int) (A : Option Addr) (n c : Nat) (A' : Option Addr) (n' c' : Nat) : (jb Z K A1 n1 c1 A2 n2 c2 A3 n3 c3 r k b wk A n c).setIfInBounds 34 (.slice A' n' c') = jb Z K A' n' c' A2 n2 c2 A3 n3 c3 r k b wk A n c := rfl
end Go.Proofs.YtlinmcgmkpkpaaaDoor.Pi
namespace Go.Proofs.YtlinmcgmkpkpaaaDoor.Bi
open Go.RowKit Go.Shelf Go.Proofs.YtlinmcgmkpkpaaaDoor Mem Held Help Go.Proofs.YtlinmcgmkpkpaaaDoor.Range
attribute [local go_sem] Oper.semAt_some
attribute [local irreducible] wpList wpListIn Calls
end Go.Proofs.YtlinmcgmkpkpaaaDoor.Bi
namespace Go.Proofs.YtlinmcgmkpkpaaaDoor.Bi
open Go.RowKit Go.Proofs.YtlinmcgmkpkpaaaDoor Mem
set_option maxRecDepth 100000
def biLaid : List (String × DataW Unit) := [("math/bits.deBruijn32tab", Rows.laid_math_bits_deBruijn32tab), ("math/bits.deBruijn64tab", Rows.laid_math_bits_deBruijn64tab)]
theorem bits_of_laid {w : World} (h : laidMetH Tryd.prog biLaid w) : TzT w := by
  rw [MakeChecks.laidMetH_plain _ _ _ (by kernel_rfl)] at h
  have h2 : Lib.TabIs Tryd.prog w "math/bits.deBruijn64tab" .u8 tzT := Lib.tabIs_of_head (e := 5) (n := 64) (zs := tzT) (t := 145) (g := 1) (by kernel_rfl) (by kernel_rfl) Tryd.underlying145 Tryd.underlying5 (by kernel_rfl) (by kernel_rfl) (laidMet.tail h)
  exact Po.tabK_of_var (by kernel_rfl) h2
end Go.Proofs.YtlinmcgmkpkpaaaDoor.Bi
