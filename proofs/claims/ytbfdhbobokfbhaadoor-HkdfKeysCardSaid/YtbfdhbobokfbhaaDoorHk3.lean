/-
  The functions Extract and Key of package hkdf by their contracts. Conditions: salts, keys and what is said are at most 2^38 bytes; the two tables of package sha lie where the program's text lays them.
-/
import Derived.Test.YtbfdhbobokfbhaaDoorHk2
namespace Go.Proofs.YtbfdhbobokfbhaaDoor.Hkdf
open Go.RowKit Go.Shelf Go.Proofs.YtbfdhbobokfbhaaDoor.Mem Go.Proofs.YtbfdhbobokfbhaaDoor.Help Go.Proofs.YtbfdhbobokfbhaaDoor.Sum Go.Proofs.YtbfdhbobokfbhaaDoor.Sha Go.Proofs.YtbfdhbobokfbhaaDoor.Mac Go.Proofs.YtbfdhbobokfbhaaDoor
set_option linter.unusedVariables false
attribute [local irreducible] wpList

/-- one key out of another -/
def hkey (salt key info : List Int) : List Int := out (tag salt key) info 32
theorem hkey_length (salt key info : List Int) : (hkey salt key info).length = 32 := out_length _ _ _ (by omega)
theorem hkey_wf (salt key info : List Int) : ∀ z ∈ hkey salt key info, (Lit.int .u8 z).wf = true := out_wf _ _ _
theorem tag_wf (key msg : List Int) : ∀ z ∈ tag key msg, (Lit.int .u8 z).wf = true := fun z hz => wf_of_byte (tag_bytes _ _ z hz)

theorem hkey_def (salt key info : List Int) : hkey salt key info = out (tag salt key) info 32 := rfl
attribute [irreducible] hkey

set_option maxRecDepth 100000 in
set_option maxHeartbeats 1000000 in
theorem extract_any (B B' : Nat) (A A' : Option Addr) (n c n' c' : Nat) (salt key : List Int) (w : World) (h : Ints w .u8 B A n salt) (hB : B ≤ w.heap.size) (hc : n ≤ c) (hc' : c ≤ maxLen) (hn : n ≤ 274877906944)
    (h' : Ints w .u8 B' A' n' key) (hB' : B' ≤ w.heap.size) (hd : n' ≤ c') (hd' : c' ≤ maxLen) (hn' : n' ≤ 274877906944) (hT0 : Tab w 0 Sum.H0) (hT1 : Tab w 1 Sum.K) :
    Calls Tryd.prog 9 #[.slice A n c, .slice A' n' c'] w fun e w' => e = .returned (.agg (arr .u8 (tag salt key))) ∧ Below w.heap.size w w' := by
  go_enter Tryd.func9, Tryd.ntmps9
  go_wp2_with (refine wpList_alloc_Row rfl 25 rfl .u8 32 zero_32 ?_; intro w1 r1 g1 z1)
  have b1 : Below w.heap.size w w1 := (Below.refl _ w).grown g1 (Nat.le_refl _) (by simp)
  have l1 := r1.lt
  refine (tag_one w1 B B' A A' n c n' c' 1 salt key (h.below (b1.mono hB)) (by omega) hc hc' (by omega) (h'.below (b1.mono hB')) (by omega) hd hd' (by omega) (hT0.below b1 hT0.lt) (hT1.below b1 hT1.lt)).mono ?_
  rintro e w2 ⟨rfl, hb2⟩
  have b2 := b1.trans (hb2.mono b1.size)
  have r2 := r1.below hb2 l1
  clear hb2 b1 r1 g1 z1
  go_wp2_with (refine wpList_store_RowTo rfl 25 _ _ rfl w.heap.size rfl 25 .u8 _ (tag salt key) rfl r2 32 info_32 (tag_length _ _) (by simp) (tag_wf _ _) ?_; intro w3 r3 g3 z3)
  exact bodyPost_ret (results_Row rfl _ _ w.heap.size _ _ _ rfl r3 32 5 Tryd.underlying25 info_32 (tag_length _ _)) rfl ⟨rfl, b2.grown g3 b2.size (fun r e => by cases e; exact Nat.le_refl _)⟩

/-- Expand to 32 bytes -/
theorem expand_32 (key info : List Int) (hk : key.length = 32) (hkb : ∀ z ∈ key, (Lit.int .u8 z).wf = true) (B : Nat) (A : Option Addr) (m c : Nat) (w : World) (hi : Ints w .u8 B A m info) (hB : B ≤ w.heap.size) (hmc : m ≤ c) (hcm : c ≤ maxLen) (hm : m ≤ 274877906944)
    (hT0 : Tab w 0 Sum.H0) (hT1 : Tab w 1 Sum.K) :
    Calls Tryd.prog 10 #[.agg (arr .u8 key), .slice A m c, .int .i64 32] w fun e w' => ∃ g, e = .returned (.tuple #[.slice (some ⟨g, 0, none⟩) 32 32, .int .i64 0]) ∧ w.heap.size ≤ g ∧ Row w' g 5 .u8 (out key info 32) ∧ Below w.heap.size w w' :=
  expand_any key info hk hkb B A m c 32 w hi hB hmc hcm hm (by omega) (by omega) hT0 hT1

theorem over_32 (xs : List Int) (h : xs.length = 32) : laidOver (List.replicate 32 0) 0 xs = xs := by
  rw [laidOver, List.take_zero, List.nil_append, Nat.zero_add, h, List.drop_of_length_le (by simp), List.append_nil]

set_option maxRecDepth 100000 in
set_option maxHeartbeats 2000000 in
theorem key_any (B B' B2 : Nat) (A A' A2 : Option Addr) (n c n' c' m c2 : Nat) (salt key info : List Int) (w : World) (h : Ints w .u8 B A n salt) (hB : B ≤ w.heap.size) (hc : n ≤ c) (hc' : c ≤ maxLen) (hn : n ≤ 274877906944)
    (h' : Ints w .u8 B' A' n' key) (hB' : B' ≤ w.heap.size) (hd : n' ≤ c') (hd' : c' ≤ maxLen) (hn' : n' ≤ 274877906944) (h2 : Ints w .u8 B2 A2 m info) (hB2 : B2 ≤ w.heap.size) (hmc : m ≤ c2) (hcm : c2 ≤ maxLen) (hm : m ≤ 274877906944)
    (hT0 : Tab w 0 Sum.H0) (hT1 : Tab w 1 Sum.K) :
    Calls Tryd.prog 14 #[.slice A n c, .slice A' n' c', .slice A2 m c2] w fun e w' => e = .returned (.agg (arr .u8 (hkey salt key info))) ∧ Below w.heap.size w w' := by
  have hsl := fun W g => run_slice_arr_all (P := Tryd.prog) 25 5 32 g W Tryd.underlying25 (by kernel_rfl) (by omega)
  go_enter Tryd.func14, Tryd.ntmps14
  go_wp2_with (first
    | (refine wpList_alloc_Row (w := w) rfl 25 rfl .u8 32 zero_32 ?_; intro w1 r1 g1 z1)
    | (refine wpList_alloc_Row (w := w1) rfl 25 rfl .u8 32 zero_32 ?_; intro w2 r2 g2 z2))
  have b2 : Below w.heap.size w w2 := ((Below.refl _ w).grown g1 (Nat.le_refl _) (by simp)).grown g2 g1.size (by simp)
  obtain ⟨g, hg⟩ : ∃ g, w1.heap.size = g := ⟨_, rfl⟩
  have hgw : w.heap.size < g := by rw [← hg]; exact r1.lt
  rw [hg] at r2 ⊢
  have r12 := r1.grown g2 (by simp)
  clear hg r1 g1 g2 z1 z2
  refine (extract_any B B' A A' n c n' c' salt key w2 (h.below (b2.mono hB)) (by have := b2.size; omega) hc hc' hn (h'.below (b2.mono hB')) (by have := b2.size; omega) hd hd' hn' (hT0.below b2 hT0.lt) (hT1.below b2 hT1.lt)).mono ?_
  rintro e w3 ⟨rfl, hb3⟩
  have b3 := b2.trans (hb3.mono b2.size)
  have q2 := r2.below hb3 r2.lt
  have q1 := r12.below hb3 r12.lt
  clear hb3 b2 r2 r12
  go_wp2_with fail
  refine (expand_32 (tag salt key) info (tag_length _ _) (tag_wf _ _) B2 A2 m c2 w3 (h2.below (b3.mono hB2)) (by have := b3.size; omega) hmc hcm hm (hT0.below b3 hT0.lt) (hT1.below b3 hT1.lt)).mono ?_
  rintro e w4 ⟨ga, rfl, hga, ra, hb4⟩
  have b4 := b3.trans (hb4.mono b3.size)
  have p2 := q2.below hb4 q2.lt
  have p1 := q1.below hb4 q1.lt
  have hgl := q2.lt
  have HO := Lib.hid (out_length (tag salt key) info 32 (by omega))
  have ia := ra.ints (n := 32) (by rw [HO.out]; omega)
  rw [List.take_of_length_le (by rw [HO.out]; omega)] at ia
  have HW := Lib.hid (out_wf (tag salt key) info 32)
  clear hb4 b3 q2 q1 ra
  have hfold : out (tag salt key) info 32 = hkey salt key info := (hkey_def _ _ _).symm
  rw [hfold] at ia HO HW
  obtain ⟨ks, hks⟩ : ∃ ks, hkey salt key info = ks := ⟨_, rfl⟩
  rw [hks] at ia HO HW
  have HKS := Lib.hid hks
  clear hfold hks
  go_wp2_with (first
    | (refine wpList_copy_Row (w := w4) rfl _ _ 22 22 rfl 5 Tryd.underlying22 (by kernel_rfl) g 0 32 32 w4.heap.size (some ⟨ga, 0, none⟩) 32 32 rfl rfl 25 .u8 _ ks p2 ia (by simp) ?_; intro w5 r5 g5 z5; rw [List.take_of_length_le (by rw [HO.out]; omega), over_32 _ HO.out] at r5; have p15 := p1.grown g5 (by intro e; injection e with e; omega))
    | (refine wpList_load_Row (w := w5) rfl 25 _ rfl g rfl 25 .u8 _ r5 32 5 Tryd.underlying25 info_32 HO.out ?_)
    | (refine wpList_store_RowTo (w := w5) rfl 25 _ _ rfl w.heap.size rfl 25 .u8 _ ks rfl p15 32 info_32 HO.out (by simp) HW.out ?_; intro w6 r6 g6 z6))
  have b6 : Below w.heap.size w w6 := (b4.grown g5 b4.size (fun r e => by cases e; omega)).grown g6 (by have := b4.size; have := g5.size; omega) (fun r e => by cases e; exact Nat.le_refl _)
  exact bodyPost_ret (results_Row rfl _ _ w.heap.size _ _ _ rfl r6 32 5 Tryd.underlying25 info_32 HO.out) rfl ⟨by rw [HKS.out], b6⟩
end Go.Proofs.YtbfdhbobokfbhaaDoor.Hkdf

