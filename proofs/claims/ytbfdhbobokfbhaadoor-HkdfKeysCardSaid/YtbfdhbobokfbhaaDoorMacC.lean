/-
  mac.Tag of parts that the caller has just laid into a list, by its contract. Conditions: the key and the parts read as lists of bytes, of at most 2^39 bytes in all; the two tables of package sha lie where the program's text lays them.
-/
import Derived.Test.YtbfdhbobokfbhaaDoorMac4
namespace Go.Proofs.YtbfdhbobokfbhaaDoor.Mac
open Go.RowKit Go.Proofs.YtbfdhbobokfbhaaDoor.Mem Go.Proofs.YtbfdhbobokfbhaaDoor.Help Go.Proofs.YtbfdhbobokfbhaaDoor.Sum Go.Proofs.YtbfdhbobokfbhaaDoor.Sha
set_option linter.unusedVariables false

theorem tag_built (w : World) (A : Option Addr) (n c : Nat) (key : List Int) (m cc : Nat) (vs : List Value) (xss : List (List Int)) (zs : List Int) (hk : Ints w .u8 w.heap.size A n key) (hc : n ≤ c) (hc' : c ≤ maxLen) (hn : n ≤ 1099511627776)
    (hv : vs.length = m) (hm : m ≤ 1000) (ht : Texts w w.heap.size vs xss) (hx : xss.flatten = zs) (hz : zs.length ≤ 549755813888) (hT0 : Tab w 0 Sum.H0) (hT1 : Tab w 1 Sum.K) :
    Calls Tryd.prog 18 #[.slice A n c, .slice (some ⟨w.heap.size, 0, none⟩) m cc] (w.alloc (.cells vs.toArray 22)) fun e w' => e = .returned (.agg (arr .u8 (tag key zs))) ∧ Below w.heap.size w w' := by
  subst hv
  subst hx
  have p1 := Vals.new w 22 vs ht.one_cell
  have hb1 : Below w.heap.size w (w.alloc (.cells vs.toArray 22)) := (Below.refl _ w).alloc (Nat.le_refl _) _
  have t1 := (ht.below hb1).more (B' := w.heap.size + 1) (by omega)
  refine (tag_any _ _ A _ n c _ cc key _ xss _ (hk.below hb1) hc hc' hn p1 t1 (by simp) (by simp) (by omega) hz (hT0.below hb1 hT0.lt) (hT1.below hb1 hT1.lt)).mono ?_
  rintro e w' ⟨rfl, hb⟩
  exact ⟨rfl, hb1.trans (hb.mono (by simp))⟩
theorem tag_one (w : World) (B B' : Nat) (A A' : Option Addr) (n c n' d cc : Nat) (key zs : List Int) (hk : Ints w .u8 B A n key) (hB : B ≤ w.heap.size) (hc : n ≤ c) (hc' : c ≤ maxLen) (hn : n ≤ 1099511627776) (h : Ints w .u8 B' A' n' zs) (hB' : B' ≤ w.heap.size) (hd : n' ≤ d) (hd' : d ≤ maxLen) (hn' : n' ≤ 549755813888)
    (hT0 : Tab w 0 Sum.H0) (hT1 : Tab w 1 Sum.K) :
    Calls Tryd.prog 18 #[.slice A n c, .slice (some ⟨w.heap.size, 0, none⟩) 1 cc] (w.alloc (.cells #[.slice A' n' d] 22)) fun e w' => e = .returned (.agg (arr .u8 (tag key zs))) ∧ Below w.heap.size w w' :=
  tag_built w A n c key 1 cc [.slice A' n' d] [zs] zs (hk.more hB) hc hc' hn rfl (by omega) (Texts.one (h.more hB') hd hd') (by simp) (by rw [h.1]; exact hn') hT0 hT1
theorem tag_two (w : World) (B B' B2 : Nat) (A A' A2 : Option Addr) (n c n' d n2 d2 cc : Nat) (key zs ys : List Int) (hk : Ints w .u8 B A n key) (hB : B ≤ w.heap.size) (hc : n ≤ c) (hc' : c ≤ maxLen) (hn : n ≤ 1099511627776) (h : Ints w .u8 B' A' n' zs) (hB' : B' ≤ w.heap.size) (hd : n' ≤ d) (hd' : d ≤ maxLen)
    (h2 : Ints w .u8 B2 A2 n2 ys) (hB2 : B2 ≤ w.heap.size) (hd2 : n2 ≤ d2) (hd2' : d2 ≤ maxLen) (hn' : n' + n2 ≤ 549755813888)
    (hT0 : Tab w 0 Sum.H0) (hT1 : Tab w 1 Sum.K) :
    Calls Tryd.prog 18 #[.slice A n c, .slice (some ⟨w.heap.size, 0, none⟩) 2 cc] (w.alloc (.cells #[.slice A' n' d, .slice A2 n2 d2] 22)) fun e w' => e = .returned (.agg (arr .u8 (tag key (zs ++ ys)))) ∧ Below w.heap.size w w' :=
  tag_built w A n c key 2 cc [.slice A' n' d, .slice A2 n2 d2] [zs, ys] (zs ++ ys) (hk.more hB) hc hc' hn rfl (by omega) ((Texts.one (h.more hB') hd hd').cons (Texts.one (h2.more hB2) hd2 hd2')) (by simp) (by rw [List.length_append, h.1, h2.1]; exact hn') hT0 hT1
end Go.Proofs.YtbfdhbobokfbhaaDoor.Mac

