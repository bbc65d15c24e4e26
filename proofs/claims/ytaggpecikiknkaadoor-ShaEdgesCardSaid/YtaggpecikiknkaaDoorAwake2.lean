/-
  The laws' first line on package sha: it returns true. Conditions: the two tables lie where the program's text lays them.
-/
import Derived.Test.YtaggpecikiknkaaDoorSha8
import Derived.Lib.SlBytesConst
namespace Go.Proofs.YtaggpecikiknkaaDoor.Sha
open Go.RowKit Go.Proofs.YtaggpecikiknkaaDoor.Mem Go.Proofs.YtaggpecikiknkaaDoor.Help Go.Proofs.YtaggpecikiknkaaDoor.Sum
set_option linter.unusedVariables false

set_option maxRecDepth 100000 in
theorem awake2_any (w : World) (hT0 : Tab w 0 Sum.H0) (hT1 : Tab w 1 Sum.K) :
    Calls Tryd.prog 9 #[] w fun e w' => e = .returned (.bool true) ∧ Below w.heap.size w w' := by
  have p1 := Vals.new (w.alloc (.cells (arr .u8 [97, 98, 99]) 5 (3, 4))) 24 [.slice (some ⟨w.heap.size, 0, none⟩) 3 3] (by simp [Value.oneCell'])
  have i0 : Ints (w.alloc (.cells (arr .u8 [97, 98, 99]) 5 (3, 4))) .u8 (w.heap.size + 1) (some ⟨w.heap.size, 0, none⟩) 3 [97, 98, 99] :=
    ⟨rfl, by decide, fun _ => ⟨w.heap.size, 0, rfl, by omega, fun i hi => by
      rw [World.cell?_alloc_mark, Nat.zero_add, arr_get _ _ (by simpa using hi)]⟩⟩
  have i1 := (i0.alloc (by simp) (.cells #[.slice (some ⟨w.heap.size, 0, none⟩) 3 3] 24)).more (B' := w.heap.size + 1 + 1) (by omega)
  have b1 : Below w.heap.size w ((w.alloc (.cells (arr .u8 [97, 98, 99]) 5 (3, 4))).alloc (.cells #[.slice (some ⟨w.heap.size, 0, none⟩) 3 3] 24)) := ((Below.refl _ w).alloc (Nat.le_refl _) _).alloc (by simp) _
  rw [World.size_alloc] at p1
  have t1 := Texts.one i1 (Nat.le_refl _) (by simp [maxLen])
  have kc := fun (w : World) (C : Array Value) (n c : Nat) => Lib.run_convert_bytes_const (P := Tryd.prog) w 24 5 C n c Tryd.underlying24 Tryd.underlying5
  have hb3 : Bs ([[97, 98, 99]] : List (List Int)).flatten := by unfold Bs; decide
  go_enter Tryd.func9, Tryd.ntmps9
  go_wp2_with fail
  refine (sum_any _ _ 1 1 _ [[97, 98, 99]] _ p1 t1 (by simp) (by omega) (by simp) hb3 (hT0.below b1 hT0.lt) (hT1.below b1 hT1.lt)).mono ?_
  rintro e w2 ⟨rfl, hb2⟩
  rw [show ([[97, 98, 99]] : List (List Int)).flatten = [97, 98, 99] from rfl, Sum.abc]
  have b2 := b1.trans (hb2.mono (by simp; omega))
  have n2 := Row.new (zs := List.replicate 32 0) (k := .u8) w2 26 (fun z hz => by rw [List.eq_of_mem_replicate hz]; rfl)
  have r2 := n2.setRow (zs := [0xba, 0x78, 0x16, 0xbf, 0x8f, 0x01, 0xcf, 0xea, 0x41, 0x41, 0x40, 0xde, 0x5d, 0xae, 0x22, 0x23, 0xb0, 0x03, 0x61, 0xa3, 0x96, 0x17, 0x7a, 0x9c, 0xb4, 0x10, 0xff, 0x61, 0xf2, 0x00, 0x15, 0xad]) (by decide +kernel)
  have c0 := r2.cell (i := 0) (by simp)
  have c1 := r2.cell (i := 1) (by simp)
  have c31 := r2.cell (i := 31) (by simp)
  simp only [List.getD_eq_getElem?_getD, List.getElem?_cons_zero, List.getElem?_cons_succ, Option.getD_some] at c0 c1 c31
  have b3 : Below w.heap.size w ((w2.alloc (.cells (arr .u8 (List.replicate 32 0)) 26)).setRow w2.heap.size (arr .u8 [0xba, 0x78, 0x16, 0xbf, 0x8f, 0x01, 0xcf, 0xea, 0x41, 0x41, 0x40, 0xde, 0x5d, 0xae, 0x22, 0x23, 0xb0, 0x03, 0x61, 0xa3, 0x96, 0x17, 0x7a, 0x9c, 0xb4, 0x10, 0xff, 0x61, 0xf2, 0x00, 0x15, 0xad])) :=
    (b2.alloc b2.size _).grown (grown_setRow _ _ _) (by have := b2.size; simp; omega) (fun r e => by have := b2.size; cases e; omega)
  obtain ⟨w3, hw3⟩ : ∃ w3, (w2.alloc (.cells (arr .u8 (List.replicate 32 0)) 26)).setRow w2.heap.size (arr .u8 [0xba, 0x78, 0x16, 0xbf, 0x8f, 0x01, 0xcf, 0xea, 0x41, 0x41, 0x40, 0xde, 0x5d, 0xae, 0x22, 0x23, 0xb0, 0x03, 0x61, 0xa3, 0x96, 0x17, 0x7a, 0x9c, 0xb4, 0x10, 0xff, 0x61, 0xf2, 0x00, 0x15, 0xad]) = w3 := ⟨_, rfl⟩
  rw [hw3] at c0 c1 c31 b3
  clear r2 p1 i1 i0 t1 b1 b2 hb2
  go_wp2_with (refine wpList_store_Row rfl 26 _ _ rfl w2.heap.size rfl 26 .u8 _ _ rfl n2 32 info_32 rfl rfl ?_; change wpList _ _ _ _ _ ((w2.alloc (.cells (arr .u8 (List.replicate 32 0)) 26)).setRow w2.heap.size (arr .u8 _)); rw [hw3])
  go_ret
  exact ⟨rfl, b3⟩
end Go.Proofs.YtaggpecikiknkaaDoor.Sha

