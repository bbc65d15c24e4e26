/-
  What the laws on package poly share: Tag of no part, of one, of two and of three; their first line returns true; what the rows' condition on the table gives. Conditions: a key of 32 bytes, at most 2^40 bytes; the table of kept bits lies where the program's text lays it.
-/
import Derived.Test.YtebkicikpeicmaaDoorPy6
import Derived.Test.YtebkicikpeicmaaDoorPr4
import Derived.Test.YtebkicikpeicmaaDoorReg
import Derived.Test.YtebkicikpeicmaaDoorKept
namespace Go.Proofs.YtebkicikpeicmaaDoor.Po
open Go.RowKit Go.Shelf Go.Proofs.YtebkicikpeicmaaDoor.Mem Go.Proofs.YtebkicikpeicmaaDoor.Sum Go.Proofs.YtebkicikpeicmaaDoor.Sha
set_option linter.unusedVariables false
attribute [local irreducible] wpList wpListIn

theorem tag_0 (key : List Int) (w : World) (hk : key.length = 32) (hkb : Bs key) (hT : TabK w 0 .u8 keptI) :
    Calls Tryd.prog 11 #[.agg (arr .u8 key), .slice none 0 0] w fun e w' => e = .returned (.agg (arr .u8 (poly key []))) ∧ Below w.heap.size w w' :=
  tag_any key w.heap.size none 0 0 [] [] w hk hkb ⟨rfl, by simp, fun h => absurd h (by omega)⟩ (Texts.nil _ _) (Nat.le_refl _) (by omega) (by simp) (fun z hz => by cases hz) hT
theorem tag_1 (key : List Int) (p : Option Addr) (A : Option Addr) (n c : Nat) (zs : List Int) (w : World) (hk : key.length = 32) (hkb : Bs key) (hv : Vals w w.heap.size p 1 [.slice A n c]) (h : Ints w .u8 w.heap.size A n zs) (hc : n ≤ c) (hm : c ≤ maxLen) (hn : n ≤ 1099511627776) (hb : Bs zs) (hT : TabK w 0 .u8 keptI) :
    Calls Tryd.prog 11 #[.agg (arr .u8 key), .slice p 1 1] w fun e w' => e = .returned (.agg (arr .u8 (poly key zs))) ∧ Below w.heap.size w w' := by
  have e : [zs].flatten = zs := by simp
  have := tag_any key w.heap.size p 1 1 [.slice A n c] [zs] w hk hkb hv (Texts.one h hc hm) (Nat.le_refl _) (by omega) (by rw [e, h.1]; exact hn) (by rw [e]; exact hb) hT
  rwa [e] at this
theorem tag_2 (key : List Int) (p : Option Addr) (A A' : Option Addr) (n n' c c' : Nat) (zs ys xs : List Int) (w : World) (hk : key.length = 32) (hkb : Bs key) (hv : Vals w w.heap.size p 2 [.slice A n c, .slice A' n' c']) (h : Ints w .u8 w.heap.size A n zs) (hc : n ≤ c) (hm : c ≤ maxLen)
    (h' : Ints w .u8 w.heap.size A' n' ys) (hc' : n' ≤ c') (hm' : c' ≤ maxLen) (hxs : zs ++ ys = xs) (hn : xs.length ≤ 1099511627776) (hb : Bs xs) (hT : TabK w 0 .u8 keptI) :
    Calls Tryd.prog 11 #[.agg (arr .u8 key), .slice p 2 2] w fun e w' => e = .returned (.agg (arr .u8 (poly key xs))) ∧ Below w.heap.size w w' := by
  have e : [zs, ys].flatten = xs := by simpa using hxs
  have := tag_any key w.heap.size p 2 2 [.slice A n c, .slice A' n' c'] [zs, ys] w hk hkb hv ((Texts.one h hc hm).append (Texts.one h' hc' hm')) (Nat.le_refl _) (by omega) (by rw [e]; exact hn) (by rw [e]; exact hb) hT
  rwa [e] at this
theorem tag_3 (key : List Int) (p : Option Addr) (A : Option Addr) (n c : Nat) (zs : List Int) (w : World) (hk : key.length = 32) (hkb : Bs key) (hv : Vals w w.heap.size p 3 [.slice none 0 0, .slice A n c, .slice none 0 0]) (h : Ints w .u8 w.heap.size A n zs) (hc : n ≤ c) (hm : c ≤ maxLen) (hn : n ≤ 1099511627776) (hb : Bs zs) (hT : TabK w 0 .u8 keptI) :
    Calls Tryd.prog 11 #[.agg (arr .u8 key), .slice p 3 3] w fun e w' => e = .returned (.agg (arr .u8 (poly key zs))) ∧ Below w.heap.size w w' := by
  have e : [[], zs, []].flatten = zs := by simp
  have hz := Texts.one (Ints.nil w .u8 w.heap.size none) (Nat.le_refl 0) (by simp [maxLen])
  have := tag_any key w.heap.size p 3 3 [.slice none 0 0, .slice A n c, .slice none 0 0] [[], zs, []] w hk hkb hv (hz.append ((Texts.one h hc hm).append hz)) (Nat.le_refl _) (by omega) (by rw [e, h.1]; exact hn) (by rw [e]; exact hb) hT
  rwa [e] at this

theorem poly_nil {key : List Int} (hk : key.length = 32) (hkb : Bs key) : poly key [] = (key.drop 16).take 16 := by
  have hb : Bs ((key.drop 16).take 16) := fun z hz => hkb z (List.mem_of_mem_drop (List.mem_of_mem_take hz))
  have hl : ((key.drop 16).take 16).length = 16 := by simp [hk]
  have := digits_val hb
  rw [hl] at this
  rw [poly, show count ([] : List Int) = 0 from rfl, acc, Int.zero_add, this]
def seqK : List Int := (List.range 32).map fun (i : Nat) => (i : Int)
theorem seqK_length : seqK.length = 32 := by simp [seqK]
theorem seqK_bytes : Bs seqK := fun z hz => by
  obtain ⟨i, hi, rfl⟩ := List.mem_map.1 hz
  have := List.mem_range.1 hi
  omega
theorem seqK_get {i : Nat} (hi : i < 32) : seqK.getD i 0 = (i : Int) := by simp [seqK, List.getD_eq_getElem?_getD, hi]
theorem zero_key : (Tryd.prog.info? 22).bind (·.zero) = some (.agg (arr .u8 (List.replicate 32 0))) := by kernel_rfl
theorem info_key : (Tryd.prog.info? 22).map (·.size) = some 32 := by kernel_rfl
set_option maxRecDepth 100000 in
theorem awake6_b (w : World) (hT : TabK w 0 .u8 keptI) : Calls Tryd.prog 9 #[] w fun e w' => e = .returned (.bool true) ∧ Below w.heap.size w w' := by
  have HL := Lib.hid seqK_length
  have HW := Lib.hid (bs_wf seqK_bytes)
  have HPL := Lib.hid (poly_length seqK [])
  have HPW := Lib.hid (bs_wf (poly_bytes seqK []))
  have HG0 := Lib.hid (show (poly seqK []).getD 0 0 = 16 by rw [poly_nil seqK_length seqK_bytes]; decide)
  have HG1 := Lib.hid (show (poly seqK []).getD 15 0 = 31 by rw [poly_nil seqK_length seqK_bytes]; decide)
  go_enter Tryd.func9, Tryd.ntmps9
  go_wp2_with (refine wpList_alloc_Row (w := w) rfl 22 rfl .u8 32 zero_key ?_; intro w1 r1 g1 z1)
  have b1 : Below w.heap.size w w1 := (Below.refl _ w).grown g1 (Nat.le_refl _) (by simp)
  clear g1 z1
  go_loopw [4] (fun i wr => ∃ k : Nat, k ≤ 32 ∧ i = .int .i64 k ∧ Below w.heap.size w wr ∧ Row wr w.heap.size 22 .u8 (blend seqK (List.replicate 32 0) k)) (fun i _ => 32 - (intOf i).toNat)
  case atStart => exact ⟨0, by omega, rfl, b1, by rw [blend_zero]; exact r1⟩
  case round =>
    clear b1 r1
    obtain ⟨k, hk, rfl, hbl, kr⟩ := hrel
    have hk0 : (0 : Int) ≤ (k : Int) := by omega
    have hLen : seqK.length = (List.replicate 32 (0 : Int)).length := by rw [HL.out]; simp
    by_cases hlt : k < 32
    · have hlt' : (k : Int) < 32 := by omega
      have hset := blend_set hLen (i := k) (by simpa using hlt)
      rw [seqK_get hlt] at hset
      have HSET := Lib.hid hset
      have HB := Lib.hid (show (blend seqK (List.replicate 32 0) k).length = 32 by rw [blend_length hLen]; simp)
      have hcv : IntKind.u8.wrap (k : Int) = (k : Int) := IntWalk.u8_in _ (by omega)
      have hcv2 : (k : Int) % 256 = (k : Int) := by omega
      have w0 : (Lit.int .u8 (k : Int)).wf = true := wf_byte (by omega)
      clear hset hLen
      go_wp2_with (refine wpList_store_elem (w := wr) rfl 5 _ _ rfl w.heap.size k rfl 22 .u8 _ (k : Int) rfl kr (by rw [HB.out]; exact hlt) info_u8 w0 ?_; intro w2 q2 g2 z2; rw [HSET.out] at q2)
      go_roundw
      case rel => exact ⟨k + 1, by omega, by go_num, hbl.grown g2 hbl.size (fun r e => by cases e; omega), q2⟩
      case measure => simp [intOf]; omega
    · have hk32 : k = 32 := by omega
      subst hk32
      have hz : blend seqK (List.replicate 32 0) 32 = seqK := blend_all (F := seqK) (a := List.replicate 32 0) hLen
      rw [hz] at kr
      clear hz hLen hk0 hlt
      go_wp2_with (refine wpList_load_Row (w := wr) rfl 22 _ rfl w.heap.size rfl 22 .u8 _ kr 32 5 Tryd.underlying22 info_key HL.out ?_)
      refine (tag_0 seqK wr HL.out seqK_bytes (hT.below hbl hT.lt)).mono ?_
      rintro e w3 ⟨rfl, hb3⟩
      have b3 := hbl.trans (hb3.mono hbl.size)
      clear hbl kr hb3
      go_wp2_with (first
        | (refine wpList_alloc_Row (w := w3) rfl 27 rfl .u8 16 zero_16b ?_; intro w4 r4 g4 z4)
        | (refine wpList_store_RowTo (w := w4) rfl 27 _ _ rfl w3.heap.size rfl 27 .u8 _ (poly seqK []) rfl r4 16 info_16b HPL.out (by simp) HPW.out ?_; intro w5 r5 g5 z5; have c0 := r5.cell (i := 0) (by rw [HPL.out]; omega); have c1 := r5.cell (i := 15) (by rw [HPL.out]; omega); rw [HG0.out] at c0; rw [HG1.out] at c1))
      go_ret
      exact ⟨rfl, (b3.grown g4 b3.size (by simp)).grown g5 (by have := b3.size; have := g4.size; omega) (fun r e => by have := b3.size; cases e; omega)⟩

set_option maxRecDepth 100000
def poLaid : List (String × DataW Unit) := [("domino/poly.kept", Rows.laid_domino_poly_kept)]
theorem poly_of_laid {w : World} (h : laidMetH Tryd.prog poLaid w) : TabK w 0 .u8 keptI := by
  rw [MakeChecks.laidMetH_plain _ _ _ (by kernel_rfl)] at h
  have h1 : Lib.TabIs Tryd.prog w "domino/poly.kept" .u8 keptI := Lib.tabIs_of_head (e := 5) (n := 16) (zs := keptI) (t := 27) (g := 0) (by kernel_rfl) (by kernel_rfl) Tryd.underlying27 Tryd.underlying5 (by kernel_rfl) (by kernel_rfl) h
  exact tabK_of_var (by kernel_rfl) h1
theorem bs_of_wf {zs : List Int} (h : ∀ z ∈ zs, (Lit.int .u8 z).wf = true) : Bs zs := fun z hz => wf_u8 (h z hz)
theorem row_ints3 {w : World} {g n : Nat} {zs : List Int} {f : Int} (hr : Row w g 5 .u8 (zs ++ [f, f, f])) (hl : zs.length = n) : Ints w .u8 w.heap.size (some ⟨g, 0, none⟩) n zs := by
  have := hr.ints (n := n) (by simp; omega)
  rwa [List.take_append_of_le_length (by omega), List.take_of_length_le (by omega)] at this
end Go.Proofs.YtebkicikpeicmaaDoor.Po

