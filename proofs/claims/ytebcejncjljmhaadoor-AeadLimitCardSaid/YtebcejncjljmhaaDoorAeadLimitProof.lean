/-
  The law AeadLimit of package dominolaw07 returns true for both of its words, whatever they are: as many bytes as may be are sealed and opened, one more is refused. The tables of packages chacha and poly hold what the program's text lays.
-/
import Derived.Test.YtebcejncjljmhaaDoorRows
import Derived.Test.YtebcejncjljmhaaDoorCards
import Derived.Test.YtebcejncjljmhaaDoorTie
import Derived.SevenTiedAt
import Derived.WalkKit
import Derived.ProofKit
import Derived.OpenShut
import Derived.ShutString
import Derived.ChangeOld
import Derived.Below
import Derived.LaidMore
import Derived.Stop.Joined
import Derived.Test.YtebcejncjljmhaaDoorB5
import Derived.Test.YtebcejncjljmhaaDoorB2
namespace Go.Proofs.YtebcejncjljmhaaDoor.aeadLimit
open Go.ChangeShapes Go.WideShapes Go.ChangeAt Go.RowKit
open Go.ChangeMaps (open_string shut_string)
open Go.Shelf Go.Proofs.YtebcejncjljmhaaDoor.Mem Go.Proofs.YtebcejncjljmhaaDoor.Help Go.Proofs.YtebcejncjljmhaaDoor.Sum Go.Proofs.YtebcejncjljmhaaDoor.Po Go.Proofs.YtebcejncjljmhaaDoor.Ae Go.Proofs.YtebcejncjljmhaaDoor
set_option linter.unusedVariables false

theorem own : ownKnob Tryd.prog.godebug = none := by kernel_rfl
theorem laidOut : laidOutB Tryd.prog = true := by kernel_rfl

/-- what a slice that came in leads to -/
def IsRow (k : IntKind) (w : World) (a : Option Addr) (len cap : Nat) (zs : List Int) : Prop :=
  (a = none ∧ len = 0 ∧ cap = 0 ∧ zs = []) ∨
  ∃ x, a = some x ∧ len ≤ cap ∧ cap ≤ maxLen ∧ zs.length = cap ∧ (∀ i, i < zs.length → w.cell? (x.add i) = some (.int k (zs.getD i 0))) ∧ ∀ n ∈ zs, (Lit.int k n).wf = true

def laidList : List (String × DataW Unit) := [("domino/chacha.start", Rows.laid_domino_chacha_start), ("domino/poly.kept", Rows.laid_domino_poly_kept)]

attribute [local irreducible] wpList Calls
theorem zeros_b (n : Nat) : Bs (List.replicate n 0) := fun z hz => by rw [List.eq_of_mem_replicate hz]; omega
theorem arg_of_made {w : World} {g n : Nat} {zs : List Int} (hr : Row w g 5 .u8 zs) (hl : zs.length = n) (hn : n ≤ 1099511627776) : Arg w w.heap.size (some ⟨g, 0, none⟩) n n zs := ⟨by
    have := hr.ints (n := n) (by omega)
    rwa [List.take_of_length_le (by omega)] at this, Nat.le_refl _, .inr (.inr ⟨_, _, rfl⟩), Nat.le_refl _, by simp only [maxLen]; omega⟩
theorem row_letter {w : World} {g n : Nat} {t : TypeId} {k : IntKind} (h : Row w g t k (List.replicate n 0)) : ∃ zs, Hid (zs.length = n) ∧ Hid (Bs zs) ∧ Row w g t k zs := ⟨_, Lib.hid (List.length_replicate ..), Lib.hid (zeros_b n), h⟩
theorem open_er (key nonce : List Int) (B0 B A n c xs) (B2 A2 n2 c2) (q : Nat) (ys) (w : World) (hL : Laid B0 w) (hB0 : B0 ≤ w.heap.size) (hk : key.length = 32) (hkb : Bs key) (hnl : nonce.length = 12) (hnb : Bs nonce)
    (h : Arg w B A n c xs) (hn : n ≤ 65536) (h2 : Arg w B2 A2 n2 c2 ys) (hq : n2 = q + 16) (hn2 : q ≤ 65536) :
    Calls Tryd.prog 16 #[.agg (arr .u8 key), .agg (arr .u8 nonce), .slice A n c, .slice A2 n2 c2] w fun e w' => ∃ A' m c' er, e = .returned (.tuple #[.slice A' m c', .int .i64 er]) ∧ (er != 5) = true ∧ (er != 3) = true ∧ Below w.heap.size w w' :=
  (open_any key nonce B0 B A n c xs B2 A2 n2 c2 q ys w hL hB0 hk hkb hnl hnb h hn h2 hq hn2).mono fun e w' ⟨hb, hr⟩ => by
    rcases hr with ⟨_, rfl⟩ | ⟨p, A', c', _, _, rfl, _⟩
    · exact ⟨_, _, _, 6, rfl, rfl, rfl, hb⟩
    · exact ⟨_, _, _, 0, rfl, rfl, rfl, hb⟩
set_option maxRecDepth 100000 in
set_option maxHeartbeats 8000000 in
theorem start_00 (w : World) (hL : Laid w.heap.size w) : Calls Tryd.prog 6 #[.bool false, .bool false] w fun e w' => e = .returned (.bool true) ∧ Below w.heap.size w w' := by
  go_enter Tryd.func6, Tryd.ntmps6
  go_wp2_with (first
    | (refine wpList_make_Row w rfl _ _ 24 rfl 5 .u8 1 Tryd.underlying24 Help.info_u8 .i64 .i64 _ _ 65536 rfl rfl rfl rfl (by omega) (by omega) ?_; intro w1 r1 g1 z1)
    | (refine wpList_build_Row rfl 22 _ rfl .u8 (List.replicate 32 0) (by kernel_rfl) ?_)
    | (refine wpList_build_Row rfl 23 _ rfl .u8 (List.replicate 12 0) (by kernel_rfl) ?_))
  obtain ⟨zs, HZ, HB, q1⟩ := row_letter r1
  have b1 : Below w.heap.size w w1 := (Below.refl _ w).grown g1 (Nat.le_refl _) (by simp)
  clear g1 z1 r1
  have bC := b1
  clear b1
  have ax := Arg.nil w1 w1.heap.size (Nat.le_refl _)
  have ay := arg_of_made q1 HZ.out (by omega)
  refine (seal_any (List.replicate 32 0) (List.replicate 12 0) w.heap.size w1.heap.size none 0 0 [] w1.heap.size (some ⟨w.heap.size, 0, none⟩) 65536 65536 zs w1 (hL.below bC) bC.size rfl (zeros_b 32) rfl (zeros_b 12) ax (by omega) ay (by omega)).mono ?_
  rintro e w3 ⟨A3, m, c3, rfl, HM, o3, hb3⟩
  have hm : m = 65552 := by rw [← HM.out, sealed_length, HZ.out]
  subst hm
  have a3 := arg_of_own o3 HM.out
  clear o3
  have b3 := bC.trans (hb3.mono bC.size)
  have ax := ax.below hb3
  have ay := ay.below hb3
  have hC3 := hb3.size
  clear hb3 bC
  go_wp2_with (first
    | (refine wpList_build_Row rfl 22 _ rfl .u8 (List.replicate 32 0) (by kernel_rfl) ?_)
    | (refine wpList_build_Row rfl 23 _ rfl .u8 (List.replicate 12 0) (by kernel_rfl) ?_)
    | (refine wpList_make_Row w3 rfl _ _ 24 rfl 5 .u8 1 Tryd.underlying24 Help.info_u8 .i64 .i64 _ _ 65552 rfl rfl rfl rfl (by omega) (by omega) ?_; intro w4 r4 g4 z4))
  obtain ⟨z4s, H4, HB4, q4⟩ := row_letter r4
  have hb4 : Below w3.heap.size w3 w4 := (Below.refl _ w3).grown g4 (Nat.le_refl _) (by simp)
  have b4 := b3.trans (hb4.mono b3.size)
  have ax := ax.below (hb4.mono hC3)
  have ay := ay.below (hb4.mono hC3)
  have a4 := arg_of_made q4 H4.out (by omega)
  have a3 := a3.below hb4
  clear r4 g4 q4
  have hC4 := Nat.le_trans hC3 hb4.size
  have h34 := hb4.size
  clear hb4 b3 hC3
  refine (open_er (List.replicate 32 0) (List.replicate 12 0) w.heap.size w1.heap.size none 0 0 [] w4.heap.size (some ⟨w3.heap.size, 0, none⟩) 65552 65552 65536 z4s w4 (hL.below b4) b4.size rfl (zeros_b 32) rfl (zeros_b 12) ax (by omega) a4 (by omega) (by omega)).mono ?_
  rintro e w5 ⟨A5, m5, c5, er, rfl, e5, e3, hb5⟩
  have b5 := b4.trans (hb5.mono b4.size)
  have ax := ax.below (hb5.mono hC4)
  have ay := ay.below (hb5.mono hC4)
  have a3 := a3.below (hb5.mono h34)
  have hC5 := Nat.le_trans hC4 hb5.size
  clear hb5 b4 a4 hC4 h34
  go_wp2_with (first
    | (refine wpList_build_Row rfl 22 _ rfl .u8 (List.replicate 32 0) (by kernel_rfl) ?_)
    | (refine wpList_build_Row rfl 23 _ rfl .u8 (List.replicate 12 0) (by kernel_rfl) ?_))
  have HOS := Lib.hid (opened_sealed (List.replicate 32 0) (List.replicate 12 0) [] (plain := zs) HB.out)
  refine (open_any (List.replicate 32 0) (List.replicate 12 0) w.heap.size w1.heap.size none 0 0 [] w3.heap.size A3 65552 c3 65536 _ w5 (hL.below b5) b5.size rfl (zeros_b 32) rfl (zeros_b 12) ax (by omega) a3 (by omega) (by omega)).mono ?_
  rintro e w6 ⟨hb6, hr⟩
  rw [HOS.out] at hr
  rcases hr with ⟨hr, _⟩ | ⟨p, A6, c6, hp, hpl, rfl, o6⟩
  · cases hr
  cases hp
  have b6 := b5.trans (hb6.mono b5.size)
  have ay := ay.below (hb6.mono hC5)
  have a6 := arg_of_own o6 hpl
  have hC6 := Nat.le_trans hC5 hb6.size
  clear hb6 b5 o6 a3 ax HOS hpl
  go_wp2_with fail
  refine (awake7_b w.heap.size w6 (hL.below b6) b6.size).mono ?_
  rintro e w7 ⟨rfl, hb7⟩
  have b7 := b6.trans (hb7.mono b6.size)
  have i6 := (a6.below hb7).ints
  have i7 := (ay.below (hb7.mono hC6)).ints
  clear hb7 b6 a6 ay
  go_wp2_with fail
  refine (bytes_any _ _ A6 (some ⟨w.heap.size, 0, none⟩) 65536 65536 c6 65536 zs zs w7 i6 i7).mono ?_
  rintro e w8 ⟨rfl, rfl⟩
  have hd : decide (zs = zs) = true := by simp
  rw [hd]
  clear hd i6 i7
  go_wp2_with fail
  go_ret
  exact ⟨rfl, b7⟩
set_option maxRecDepth 100000 in
set_option maxHeartbeats 8000000 in
theorem start_01 (w : World) (hL : Laid w.heap.size w) : Calls Tryd.prog 6 #[.bool false, .bool true] w fun e w' => e = .returned (.bool true) ∧ Below w.heap.size w w' := by
  go_enter Tryd.func6, Tryd.ntmps6
  go_wp2_with (first
    | (refine wpList_make_Row w rfl _ _ 24 rfl 5 .u8 1 Tryd.underlying24 Help.info_u8 .i64 .i64 _ _ 65536 rfl rfl rfl rfl (by omega) (by omega) ?_; intro w1 r1 g1 z1))
  obtain ⟨zs, HZ, HB, q1⟩ := row_letter r1
  have b1 : Below w.heap.size w w1 := (Below.refl _ w).grown g1 (Nat.le_refl _) (by simp)
  clear g1 z1 r1
  clear q1 HZ HB zs
  refine wp_region_held (S := fun W => Below w1.heap.size w1 W) (by kernel_rfl) ?_
  change wpAnyH _ _ _ _ _ _ _ _ w1.drew
  have c0 := (Below.refl w1.heap.size w1).drew
  refine Held.take (v := .int .i64 65536) 0 (some 20) rfl rfl (by kernel_rfl) (by kernel_rfl) (by kernel_rfl) (fun _ _ _ h => h) rfl (Held.y_move rfl rfl) c0 ?_
  simp only [Act.put, List.setIfInBounds_toArray, List.set_cons_zero, List.set_cons_succ]
  refine Held.take (v := .slice none 0 0) 2 (some 6) rfl rfl (by kernel_rfl) (by kernel_rfl) (by kernel_rfl) (fun _ _ _ h => h) rfl (Held.y_assign rfl rfl) c0 ?_
  simp only [Act.put, List.setIfInBounds_toArray, List.set_cons_zero, List.set_cons_succ]
  refine Held.one 1 (by kernel_rfl) ?_
  refine Held.op_make_Row 1 (some 21) 24 5 .u8 1 65536 .i64 .i64 rfl rfl rfl rfl Tryd.underlying24 Help.info_u8 rfl rfl (by omega) (by omega) ?_
  intro ga w2 r2 b2 h2
  have c2 := c0.trans (b2.mono c0.size)
  refine ⟨c2, ?_⟩
  simp only [Act.put, List.setIfInBounds_toArray, List.set_cons_zero, List.set_cons_succ]
  refine Held.take (v := .slice (some ⟨ga, 0, none⟩) 65536 65536) 3 (some 7) rfl rfl (by kernel_rfl) (by kernel_rfl) (by kernel_rfl) (fun _ _ _ h => h) rfl (Held.y_assign rfl rfl) c2 ?_
  simp only [Act.put, List.setIfInBounds_toArray, List.set_cons_zero, List.set_cons_succ]
  refine wpAnyH_done (by kernel_rfl) ?_ _
  obtain ⟨zs, HZ, HB, q2⟩ := row_letter r2
  have bC := b1.trans (c2.mono b1.size)
  clear c0 b2 h2 c2 r2 b1
  have ax := arg_of_made q2 HZ.out (by omega)
  have ay := Arg.nil w2 w2.heap.size (Nat.le_refl _)
  have qa := q2.lt
  go_wp2_with (first
    | (refine wpList_build_Row rfl 22 _ rfl .u8 (List.replicate 32 0) (by kernel_rfl) ?_)
    | (refine wpList_build_Row rfl 23 _ rfl .u8 (List.replicate 12 0) (by kernel_rfl) ?_))
  refine (seal_any (List.replicate 32 0) (List.replicate 12 0) w.heap.size w2.heap.size (some ⟨ga, 0, none⟩) 65536 65536 zs w2.heap.size none 0 0 [] w2 (hL.below bC) bC.size rfl (zeros_b 32) rfl (zeros_b 12) ax (by omega) ay (by omega)).mono ?_
  rintro e w3 ⟨A3, m, c3, rfl, HM, o3, hb3⟩
  have hm : m = 16 := by rw [← HM.out, sealed_length]; rfl
  subst hm
  have a3 := arg_of_own o3 HM.out
  clear o3
  have b3 := bC.trans (hb3.mono bC.size)
  have ax := ax.below hb3
  have ay := ay.below hb3
  have hC3 := hb3.size
  clear hb3 bC
  go_wp2_with (first
    | (refine wpList_build_Row rfl 22 _ rfl .u8 (List.replicate 32 0) (by kernel_rfl) ?_)
    | (refine wpList_build_Row rfl 23 _ rfl .u8 (List.replicate 12 0) (by kernel_rfl) ?_)
    | (refine wpList_make_Row w3 rfl _ _ 24 rfl 5 .u8 1 Tryd.underlying24 Help.info_u8 .i64 .i64 _ _ 16 rfl rfl rfl rfl (by omega) (by omega) ?_; intro w4 r4 g4 z4))
  obtain ⟨z4s, H4, HB4, q4⟩ := row_letter r4
  have hb4 : Below w3.heap.size w3 w4 := (Below.refl _ w3).grown g4 (Nat.le_refl _) (by simp)
  have b4 := b3.trans (hb4.mono b3.size)
  have ax := ax.below (hb4.mono hC3)
  have ay := ay.below (hb4.mono hC3)
  have a4 := arg_of_made q4 H4.out (by omega)
  have a3 := a3.below hb4
  clear r4 g4 q4
  have hC4 := Nat.le_trans hC3 hb4.size
  have h34 := hb4.size
  clear hb4 b3 hC3
  refine (open_er (List.replicate 32 0) (List.replicate 12 0) w.heap.size w2.heap.size (some ⟨ga, 0, none⟩) 65536 65536 zs w4.heap.size (some ⟨w3.heap.size, 0, none⟩) 16 16 0 z4s w4 (hL.below b4) b4.size rfl (zeros_b 32) rfl (zeros_b 12) ax (by omega) a4 (by omega) (by omega)).mono ?_
  rintro e w5 ⟨A5, m5, c5, er, rfl, e5, e3, hb5⟩
  have b5 := b4.trans (hb5.mono b4.size)
  have ax := ax.below (hb5.mono hC4)
  have ay := ay.below (hb5.mono hC4)
  have a3 := a3.below (hb5.mono h34)
  have hC5 := Nat.le_trans hC4 hb5.size
  clear hb5 b4 a4 hC4 h34
  go_wp2_with (first
    | (refine wpList_build_Row rfl 22 _ rfl .u8 (List.replicate 32 0) (by kernel_rfl) ?_)
    | (refine wpList_build_Row rfl 23 _ rfl .u8 (List.replicate 12 0) (by kernel_rfl) ?_))
  have HOS := Lib.hid (opened_sealed (List.replicate 32 0) (List.replicate 12 0) zs (plain := []) (fun z hz => by cases hz))
  refine (open_any (List.replicate 32 0) (List.replicate 12 0) w.heap.size w2.heap.size (some ⟨ga, 0, none⟩) 65536 65536 zs w3.heap.size A3 16 c3 0 _ w5 (hL.below b5) b5.size rfl (zeros_b 32) rfl (zeros_b 12) ax (by omega) a3 (by omega) (by omega)).mono ?_
  rintro e w6 ⟨hb6, hr⟩
  rw [HOS.out] at hr
  rcases hr with ⟨hr, _⟩ | ⟨p, A6, c6, hp, hpl, rfl, o6⟩
  · cases hr
  cases hp
  have b6 := b5.trans (hb6.mono b5.size)
  have ay := ay.below (hb6.mono hC5)
  have a6 := arg_of_own o6 hpl
  have hC6 := Nat.le_trans hC5 hb6.size
  clear hb6 b5 o6 a3 ax HOS hpl
  go_wp2_with fail
  refine (awake7_b w.heap.size w6 (hL.below b6) b6.size).mono ?_
  rintro e w7 ⟨rfl, hb7⟩
  have b7 := b6.trans (hb7.mono b6.size)
  have i6 := (a6.below hb7).ints
  have i7 := (ay.below (hb7.mono hC6)).ints
  clear hb7 b6 a6 ay
  go_wp2_with fail
  refine (bytes_any _ _ A6 none 0 0 c6 0 [] [] w7 i6 i7).mono ?_
  rintro e w8 ⟨rfl, rfl⟩
  have hd : decide (([] : List Int) = []) = true := by simp
  rw [hd]
  clear hd i6 i7
  go_wp2_with fail
  go_ret
  exact ⟨rfl, b7⟩
set_option maxRecDepth 100000 in
set_option maxHeartbeats 8000000 in
theorem start_10 (w : World) (hL : Laid w.heap.size w) : Calls Tryd.prog 6 #[.bool true, .bool false] w fun e w' => e = .returned (.bool true) ∧ Below w.heap.size w w' := by
  go_enter Tryd.func6, Tryd.ntmps6
  go_wp2_with (first
    | (refine wpList_make_Row w rfl _ _ 24 rfl 5 .u8 1 Tryd.underlying24 Help.info_u8 .i64 .i64 _ _ 65537 rfl rfl rfl rfl (by omega) (by omega) ?_; intro w1 r1 g1 z1)
    | (refine wpList_build_Row rfl 22 _ rfl .u8 (List.replicate 32 0) (by kernel_rfl) ?_)
    | (refine wpList_build_Row rfl 23 _ rfl .u8 (List.replicate 12 0) (by kernel_rfl) ?_))
  obtain ⟨zs, HZ, HB, q1⟩ := row_letter r1
  have b1 : Below w.heap.size w w1 := (Below.refl _ w).grown g1 (Nat.le_refl _) (by simp)
  clear g1 z1 r1
  have bC := b1
  clear b1
  have ax := Arg.nil w1 w1.heap.size (Nat.le_refl _)
  have ay := arg_of_made q1 HZ.out (by omega)
  refine (seal_bad (List.replicate 32 0) (List.replicate 12 0) w.heap.size w1.heap.size none 0 0 [] w1.heap.size (some ⟨w.heap.size, 0, none⟩) 65537 65537 zs w1 (hL.below bC) bC.size rfl (zeros_b 32) rfl (zeros_b 12) ax ay (.inr (by omega))).mono ?_
  rintro e w3 ⟨rfl, hb3⟩
  have b3 := bC.trans (hb3.mono bC.size)
  have ax := ax.below hb3
  have ay := ay.below hb3
  have hC3 := hb3.size
  clear hb3 bC
  go_wp2_with (first
    | (refine wpList_build_Row rfl 22 _ rfl .u8 (List.replicate 32 0) (by kernel_rfl) ?_)
    | (refine wpList_build_Row rfl 23 _ rfl .u8 (List.replicate 12 0) (by kernel_rfl) ?_)
    | (refine wpList_make_Row w3 rfl _ _ 24 rfl 5 .u8 1 Tryd.underlying24 Help.info_u8 .i64 .i64 _ _ 65553 rfl rfl rfl rfl (by omega) (by omega) ?_; intro w4 r4 g4 z4))
  obtain ⟨z4s, H4, HB4, q4⟩ := row_letter r4
  have hb4 : Below w3.heap.size w3 w4 := (Below.refl _ w3).grown g4 (Nat.le_refl _) (by simp)
  have b4 := b3.trans (hb4.mono b3.size)
  have ax := ax.below (hb4.mono hC3)
  have ay := ay.below (hb4.mono hC3)
  have a4 := arg_of_made q4 H4.out (by omega)
  clear r4 g4 q4
  have hC4 := Nat.le_trans hC3 hb4.size
  have h34 := hb4.size
  clear hb4 b3 hC3
  refine (open_bad (List.replicate 32 0) (List.replicate 12 0) w.heap.size w1.heap.size none 0 0 [] w4.heap.size (some ⟨w3.heap.size, 0, none⟩) 65553 65553 z4s w4 (hL.below b4) b4.size rfl (zeros_b 32) rfl (zeros_b 12) ax a4 (.inr (by omega))).mono ?_
  rintro e w5 ⟨rfl, hb5⟩
  have b5 := b4.trans (hb5.mono b4.size)
  clear hb5 b4 a4 ax ay
  go_wp2_with fail
  refine (awake7_b w.heap.size w5 (hL.below b5) b5.size).mono ?_
  rintro e w6 ⟨rfl, hb6⟩
  go_wp2_with fail
  go_ret
  exact ⟨rfl, b5.trans (hb6.mono b5.size)⟩
set_option maxRecDepth 100000 in
set_option maxHeartbeats 8000000 in
theorem start_11 (w : World) (hL : Laid w.heap.size w) : Calls Tryd.prog 6 #[.bool true, .bool true] w fun e w' => e = .returned (.bool true) ∧ Below w.heap.size w w' := by
  go_enter Tryd.func6, Tryd.ntmps6
  go_wp2_with (first
    | (refine wpList_make_Row w rfl _ _ 24 rfl 5 .u8 1 Tryd.underlying24 Help.info_u8 .i64 .i64 _ _ 65537 rfl rfl rfl rfl (by omega) (by omega) ?_; intro w1 r1 g1 z1))
  obtain ⟨zs, HZ, HB, q1⟩ := row_letter r1
  have b1 : Below w.heap.size w w1 := (Below.refl _ w).grown g1 (Nat.le_refl _) (by simp)
  clear g1 z1 r1
  clear q1 HZ HB zs
  refine wp_region_held (S := fun W => Below w1.heap.size w1 W) (by kernel_rfl) ?_
  change wpAnyH _ _ _ _ _ _ _ _ w1.drew
  have c0 := (Below.refl w1.heap.size w1).drew
  refine Held.take (v := .int .i64 65537) 0 (some 20) rfl rfl (by kernel_rfl) (by kernel_rfl) (by kernel_rfl) (fun _ _ _ h => h) rfl (Held.y_move rfl rfl) c0 ?_
  simp only [Act.put, List.setIfInBounds_toArray, List.set_cons_zero, List.set_cons_succ]
  refine Held.take (v := .slice none 0 0) 2 (some 6) rfl rfl (by kernel_rfl) (by kernel_rfl) (by kernel_rfl) (fun _ _ _ h => h) rfl (Held.y_assign rfl rfl) c0 ?_
  simp only [Act.put, List.setIfInBounds_toArray, List.set_cons_zero, List.set_cons_succ]
  refine Held.one 1 (by kernel_rfl) ?_
  refine Held.op_make_Row 1 (some 21) 24 5 .u8 1 65537 .i64 .i64 rfl rfl rfl rfl Tryd.underlying24 Help.info_u8 rfl rfl (by omega) (by omega) ?_
  intro ga w2 r2 b2 h2
  have c2 := c0.trans (b2.mono c0.size)
  refine ⟨c2, ?_⟩
  simp only [Act.put, List.setIfInBounds_toArray, List.set_cons_zero, List.set_cons_succ]
  refine Held.take (v := .slice (some ⟨ga, 0, none⟩) 65537 65537) 3 (some 7) rfl rfl (by kernel_rfl) (by kernel_rfl) (by kernel_rfl) (fun _ _ _ h => h) rfl (Held.y_assign rfl rfl) c2 ?_
  simp only [Act.put, List.setIfInBounds_toArray, List.set_cons_zero, List.set_cons_succ]
  refine wpAnyH_done (by kernel_rfl) ?_ _
  obtain ⟨zs, HZ, HB, q2⟩ := row_letter r2
  have bC := b1.trans (c2.mono b1.size)
  clear c0 b2 h2 c2 r2 b1
  have ax := arg_of_made q2 HZ.out (by omega)
  have ay := Arg.nil w2 w2.heap.size (Nat.le_refl _)
  have qa := q2.lt
  go_wp2_with (first
    | (refine wpList_build_Row rfl 22 _ rfl .u8 (List.replicate 32 0) (by kernel_rfl) ?_)
    | (refine wpList_build_Row rfl 23 _ rfl .u8 (List.replicate 12 0) (by kernel_rfl) ?_))
  refine (seal_bad (List.replicate 32 0) (List.replicate 12 0) w.heap.size w2.heap.size (some ⟨ga, 0, none⟩) 65537 65537 zs w2.heap.size none 0 0 [] w2 (hL.below bC) bC.size rfl (zeros_b 32) rfl (zeros_b 12) ax ay (.inl (by omega))).mono ?_
  rintro e w3 ⟨rfl, hb3⟩
  have b3 := bC.trans (hb3.mono bC.size)
  have ax := ax.below hb3
  have ay := ay.below hb3
  have hC3 := hb3.size
  clear hb3 bC
  go_wp2_with (first
    | (refine wpList_build_Row rfl 22 _ rfl .u8 (List.replicate 32 0) (by kernel_rfl) ?_)
    | (refine wpList_build_Row rfl 23 _ rfl .u8 (List.replicate 12 0) (by kernel_rfl) ?_)
    | (refine wpList_make_Row w3 rfl _ _ 24 rfl 5 .u8 1 Tryd.underlying24 Help.info_u8 .i64 .i64 _ _ 16 rfl rfl rfl rfl (by omega) (by omega) ?_; intro w4 r4 g4 z4))
  obtain ⟨z4s, H4, HB4, q4⟩ := row_letter r4
  have hb4 : Below w3.heap.size w3 w4 := (Below.refl _ w3).grown g4 (Nat.le_refl _) (by simp)
  have b4 := b3.trans (hb4.mono b3.size)
  have ax := ax.below (hb4.mono hC3)
  have ay := ay.below (hb4.mono hC3)
  have a4 := arg_of_made q4 H4.out (by omega)
  clear r4 g4 q4
  have hC4 := Nat.le_trans hC3 hb4.size
  have h34 := hb4.size
  clear hb4 b3 hC3
  refine (open_bad (List.replicate 32 0) (List.replicate 12 0) w.heap.size w2.heap.size (some ⟨ga, 0, none⟩) 65537 65537 zs w4.heap.size (some ⟨w3.heap.size, 0, none⟩) 16 16 z4s w4 (hL.below b4) b4.size rfl (zeros_b 32) rfl (zeros_b 12) ax a4 (.inl (by omega))).mono ?_
  rintro e w5 ⟨rfl, hb5⟩
  have b5 := b4.trans (hb5.mono b4.size)
  clear hb5 b4 a4 ax ay
  go_wp2_with fail
  refine (awake7_b w.heap.size w5 (hL.below b5) b5.size).mono ?_
  rintro e w6 ⟨rfl, hb6⟩
  go_wp2_with fail
  go_ret
  exact ⟨rfl, b5.trans (hb6.mono b5.size)⟩

theorem walk (a0 : Bool) (a1 : Bool) (w : World)  (hL : laidMetH Tryd.prog laidList w) :
    Calls Tryd.prog 6 #[.bool a0, .bool a1] w fun e w' => e = .returned (.bool true) ∧ Below w.heap.size w w' := by
  cases a0 <;> cases a1
  · exact start_00 w (laid_of hL)
  · exact start_01 w (laid_of hL)
  · exact start_10 w (laid_of hL)
  · exact start_11 w (laid_of hL)

set_option maxRecDepth 100000 in
theorem door_met (os : Os) (args : Array Value) : laidMetH Tryd.prog laidList ((World.doorLaid Tryd.prog 400 os).forCall (fun _ _ => 0) ⟨#[], args, []⟩).memory :=
  laidMetH_of_parts3 (fuel := 8) (laidMet_of_run' 8 (by kernel_rfl) (by kernel_rfl)) (by kernel_rfl) (by kernel_rfl)

set_option maxRecDepth 100000 in
theorem lifted (os : Os) (started : os.Started) (H : Type) (enc : TypeId × Value → H) :
    ReturnsInHanded {} Tryd.checked os 6 .any (fun w args => (Rows.aeadLimitSpec.pre enc Tryd.prog Tryd.f6 [] false w args ∧ laidMetH Tryd.prog laidList w) ∧ sizedMet enc Tryd.prog Tryd.f6 (OpenSpec.ofChange Rows.aeadLimitSpec) false w args)
      (Rows.aeadLimitSpec.post enc Tryd.prog Tryd.f6 false true false false) := by
  refine returnsInHanded_of_change_and (C := Tryd.checked) (X := fun w _ => laidMetH Tryd.prog laidList w) (fun _ _ _ hh h => h.of_heap hh) own started (by kernel_rfl) Tryd.func6
    (ChangeSpec.witness_shaped (enc := enc) (C := Tryd.checked) (os := os) (X := fun w _ => laidMetH Tryd.prog laidList w) false (World.doorLaid Tryd.prog 400 os) #[.bool false, .bool false] 8 rfl (World.shaped_of_RefB (by kernel_rfl) (by kernel_rfl)) (by kernel_rfl) (by kernel_rfl) (by kernel_rfl) (door_met os _)) ?_
  intro W base args ds gs before hval0 hW _ _ hL _
  have hval : ∀ (j : Nat) t v, Tryd.f6.params[j]? = some t → args[j]? = some v → Value.okWide Tryd.prog W .any base t v := hval0
  have hW' := hW
  obtain ⟨p, q, hA0, hV, rfl, hfz, hnd⟩ := hW
  have hA : DataW.TrodAll enc Tryd.prog W 0 (fun _ => true) true Tryd.f6.params.toList args.toList ds p := hA0
  rw [Tryd.params6] at hA hval
  obtain ⟨v0, vs0, d0, ds0, p0, q0, hargs, rfl, rfl, h0, r0⟩ := trodAll_cons hA
  obtain ⟨v1, vs1, d1, ds1, p1, q1, rfl, rfl, rfl, h1, r1⟩ := trodAll_cons r0
  obtain ⟨rfl, rfl, rfl⟩ := trodAll_nil r1
  obtain rfl : args = #[v0, v1] := by cases args; simp_all
  obtain ⟨rfl, rfl⟩ := trodVars_none hV
  obtain ⟨a0, rfl, rfl, rfl⟩ := open_bool Tryd.underlying4 (hval 0 4 v0 rfl rfl) h0
  obtain ⟨a1, rfl, rfl, rfl⟩ := open_bool Tryd.underlying4 (hval 1 4 v1 rfl rfl) h1
  clear hA0 hval0
  refine (walk a0 a1 W  hL).mono fun e W' ⟨he, bel⟩ => ?_
  subst he
  exact ⟨_, rfl, _, _, _, [], _, [], hW', trodAll_mk1 (shut_bool Tryd.underlying4 _), (trodAll_cons_mk (shut_bool Tryd.underlying4 _) (trodAll_cons_mk (shut_bool Tryd.underlying4 _) trodAll_mk0)), rfl, bel.frame _, fun h => by cases h⟩

theorem over : Rows.aeadLimitRow.holds Tryd.pinned (OpenSpec.ofChange Rows.aeadLimitSpec) :=
  OpenClaim.holds_of_wide 6 Tryd.f6 rfl rfl rfl rfl rfl rfl rfl ⟨rfl, rfl, rfl, rfl, rfl⟩ rfl rfl rfl rfl rfl (by kernel_rfl) Tryd.func6 (by kernel_rfl)
    (of_decide_eq_true (by kernel_rfl)) (by unfold Func.isWrapper; first | (rw [if_pos (by decide +kernel)]; kernel_rfl) | (rw [if_neg (by decide +kernel)]; exact ⟨rfl, rfl⟩))
    (fun os started H enc _ => lifted os started H enc)

/-- the statement -/
theorem proved : Rows.AeadLimitCardSaid :=
  Claim7.holds_tied_plain_at .later [] [.widerDeep, .data] true (true, "4b84c088017a6d4a2915d281b40e8f4247fc655ca7215a1524322a39d49a7d87") false
    over (fun _ h => by cases h) (by kernel_rfl) (fun _ h => by cases h) aeadLimit_row_tie rfl ⟨rfl, rfl⟩ (by kernel_rfl) rfl
    (fun f fn hf hfn => by
      obtain rfl : f = 6 := Option.some.inj ((show Tryd.prog.funcNamed "domino/dominolaw07.AeadLimit" = some 6 by kernel_rfl).symm.trans hf) |>.symm
      obtain rfl : fn = Tryd.f6 := (Option.some.inj (Tryd.func6.symm.trans hfn)).symm
      exact ⟨by kernel_rfl, fun j t ht => by
        rw [Tryd.params6] at ht
        have hm : t ∈ [4, 4] := by simpa using Array.mem_of_getElem? ht
        have hall : ([4, 4].all fun u => !Tryd.prog.wantsStandIn u) = true := by kernel_rfl
        exact (show Tryd.prog.wantsStandIn t = false by simpa using List.all_eq_true.1 hall t hm)⟩)
    (by kernel_rfl)
#print axioms proved
end Go.Proofs.YtebcejncjljmhaaDoor.aeadLimit
