/-
  sha.Sum of parts that the caller has just laid into a list, by its contract. Conditions: the parts read as lists of bytes, of at most 2^40 bytes in all; the two tables lie where the program's text lays them.
-/
import Derived.Test.YtbfdhbobokfbhaaDoorSha8
import Derived.Test.YtbfdhbobokfbhaaDoorTexts
namespace Go.Proofs.YtbfdhbobokfbhaaDoor.Sha
open Go.RowKit Go.Proofs.YtbfdhbobokfbhaaDoor.Mem Go.Proofs.YtbfdhbobokfbhaaDoor.Help Go.Proofs.YtbfdhbobokfbhaaDoor.Sum
set_option linter.unusedVariables false

theorem rowInts {w : World} {g n : Nat} {zs : List Int} {f : Int} (hr : Row w g 5 .u8 (zs ++ [f, f, f])) (hl : zs.length = n) : Ints w .u8 w.heap.size (some ⟨g, 0, none⟩) n zs := by
  have hi := hr.ints (n := n) (by simp; omega)
  rwa [List.take_left' hl] at hi
theorem Texts.cons {w : World} {B : Nat} {v : Value} {vs : List Value} {xs : List Int} {xss : List (List Int)} (h : Texts w B [v] [xs]) (k : Texts w B vs xss) : Texts w B (v :: vs) (xs :: xss) := h.append k

theorem sum_built (w : World) (n c : Nat) (vs : List Value) (xss : List (List Int)) (zs : List Int) (hv : vs.length = n) (hn : n ≤ 1000) (ht : Texts w w.heap.size vs xss) (hx : xss.flatten = zs) (hz : zs.length ≤ 1099511627776)
    (hT0 : Tab w 0 Sum.H0) (hT1 : Tab w 1 Sum.K) :
    Calls Tryd.prog 30 #[.slice (some ⟨w.heap.size, 0, none⟩) n c] (w.alloc (.cells vs.toArray 22)) fun e w' => e = .returned (.agg (arr .u8 (Sum.sha zs))) ∧ Below w.heap.size w w' := by
  subst hv
  subst hx
  have p1 := Vals.new w 22 vs ht.one_cell
  have hb1 : Below w.heap.size w (w.alloc (.cells vs.toArray 22)) := (Below.refl _ w).alloc (Nat.le_refl _) _
  have t1 := (ht.below hb1).more (B' := w.heap.size + 1) (by omega)
  refine (sum_any _ _ _ c _ xss _ p1 t1 (by simp) (by omega) hz ht.bs (hT0.below hb1 hT0.lt) (hT1.below hb1 hT1.lt)).mono ?_
  rintro e w' ⟨rfl, hb⟩
  exact ⟨rfl, hb1.trans (hb.mono (by simp))⟩
theorem sum_one (w : World) (B : Nat) (A : Option Addr) (n c d : Nat) (zs : List Int) (h : Ints w .u8 B A n zs) (hB : B ≤ w.heap.size) (hd : n ≤ d) (hd' : d ≤ maxLen) (hn : n ≤ 1099511627776)
    (hT0 : Tab w 0 Sum.H0) (hT1 : Tab w 1 Sum.K) :
    Calls Tryd.prog 30 #[.slice (some ⟨w.heap.size, 0, none⟩) 1 c] (w.alloc (.cells #[.slice A n d] 22)) fun e w' => e = .returned (.agg (arr .u8 (Sum.sha zs))) ∧ Below w.heap.size w w' :=
  sum_built w 1 c [.slice A n d] [zs] zs rfl (by omega) (Texts.one (h.more hB) hd hd') (by simp) (by rw [h.1]; exact hn) hT0 hT1
theorem sum_two (w : World) (B B' : Nat) (A A' : Option Addr) (n n' c d d' : Nat) (zs zs' : List Int) (h : Ints w .u8 B A n zs) (h' : Ints w .u8 B' A' n' zs') (hB : B ≤ w.heap.size) (hB' : B' ≤ w.heap.size) (hd : n ≤ d) (hd' : d ≤ maxLen)
    (hq : n' ≤ d') (hq' : d' ≤ maxLen) (hn : n + n' ≤ 1099511627776) (hT0 : Tab w 0 Sum.H0) (hT1 : Tab w 1 Sum.K) :
    Calls Tryd.prog 30 #[.slice (some ⟨w.heap.size, 0, none⟩) 2 c] (w.alloc (.cells #[.slice A n d, .slice A' n' d'] 22)) fun e w' => e = .returned (.agg (arr .u8 (Sum.sha (zs ++ zs')))) ∧ Below w.heap.size w w' :=
  sum_built w 2 c [.slice A n d, .slice A' n' d'] [zs, zs'] (zs ++ zs') rfl (by omega) ((Texts.one (h.more hB) hd hd').cons (Texts.one (h'.more hB') hq hq')) (by simp) (by rw [List.length_append, h.1, h'.1]; exact hn) hT0 hT1
end Go.Proofs.YtbfdhbobokfbhaaDoor.Sha

