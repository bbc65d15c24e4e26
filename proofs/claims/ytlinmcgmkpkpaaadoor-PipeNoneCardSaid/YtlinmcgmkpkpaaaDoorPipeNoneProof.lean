/-
  The law PipeNone of package dominolaw16 returns true for every job and either kind of map: of a map that emits nothing, or but dead ones, nothing comes out.
-/
import Derived.Test.YtlinmcgmkpkpaaaDoorRows
import Derived.Test.YtlinmcgmkpkpaaaDoorCards
import Derived.Test.YtlinmcgmkpkpaaaDoorTie
import Derived.SevenTiedAt
import Derived.WalkKit
import Derived.ProofKit
import Derived.OpenShut
import Derived.ShutString
import Derived.ChangeOld
import Derived.Below
import Derived.LaidMore
import Derived.Stop.Joined
import Derived.Test.YtlinmcgmkpkpaaaDoorB22
namespace Go.Proofs.YtlinmcgmkpkpaaaDoor.pipeNone
open Go.ChangeShapes Go.WideShapes Go.ChangeAt Go.RowKit
open Go.ChangeMaps (open_string shut_string)
open Go.Shelf Go.Proofs.YtlinmcgmkpkpaaaDoor Mem Held Ct Rc Rs Sl Vm Sp Mg Go.Proofs.YtlinmcgmkpkpaaaDoor.Pi
theorem own : ownKnob Tryd.prog.godebug = none := by kernel_rfl
theorem laidOut : laidOutB Tryd.prog = true := by kernel_rfl
def laidList : List (String × DataW Unit) := [("math/bits.deBruijn32tab", Rows.laid_math_bits_deBruijn32tab), ("math/bits.deBruijn64tab", Rows.laid_math_bits_deBruijn64tab)]
attribute [local irreducible] wpList wpListIn Calls
attribute [local go_sem] Oper.semAt_some
set_option maxRecDepth 100000 in
set_option maxHeartbeats 16000000 in
theorem start (Z : Nat → Value) (K : Int) (A1 : Option Addr) (n1 c1 : Nat) (x1 : List O) (A2 : Option Addr) (n2 c2 : Nat) (x2 : List O) (A3 : Option Addr) (n3 c3 : Nat) (x3 : List O) (pr pk pb pw : Int) (A : Option Addr) (n c : Nat) (ps : List (Int × Int)) (dead : Bool) (w : World) (hZ : Zok Z)
    (h1 : Lst kO w w.heap.size A1 n1 x1) (h2 : Lst kO w w.heap.size A2 n2 x2) (h3 : Lst kO w w.heap.size A3 n3 x3) (hp : Lst kP w w.heap.size A n ps) (hnc : n ≤ c) (hcm : c ≤ maxLen) (hT : Bi.TzT w) :
    Calls Tryd.prog 7 #[.agg (jb Z K A1 n1 c1 A2 n2 c2 A3 n3 c3 pr pk pb pw A n c), .bool dead] w fun e w' => e = .returned (.bool true) ∧ Below w.heap.size w w' := by
  go_enter Tryd.func7, Tryd.ntmps7
  cases dead with
  | true =>
    go_wp2_with (first
      | (refine on 2 ?_; refine wpList_box_blk (w := w) rfl 31 _ rfl (jb Z K A1 n1 c1 A2 n2 c2 A3 n3 c3 pr pk pb pw A n c) rfl ?_; intro w1 q1 g1 z1)
      | (refine on 7 ?_; refine wpList_load_blk (w := w1) rfl 31 _ rfl w.heap.size 42 rfl 31 _ q1 _ Tryd.underlying31 rfl size_job rfl ?_))
    have b1 : Below w.heap.size w w1 := (Below.refl _ w).grown g1 (Nat.le_refl _) (by simp)
    have s1 : w1.heap.size = w.heap.size + 1 := z1.out
    refine (right_any_job w.heap.size Z K A1 n1 c1 x1 A2 n2 c2 x2 A3 n3 c3 x3 pr pk pb pw A n c ps w1 hZ (h1.below b1) (h2.below b1) (h3.below b1) (hp.below b1) hnc hcm (by omega)).mono ?_
    rintro e w2 ⟨B1, B2, B3, m1, d1, m2, d2, m3, d3, y1, y2, y3, r, k, b, wk, A', c', qs, rfl, l1, l2, l3, lp, ⟨f1, f2, f3, fp, hrc, hcm2⟩, hC, hR, hr6, hk2, hb3, hw3, b2⟩
    have q1 := q1.after b2
    have b2 := b1.trans (b2.mono (by omega))
    have hk1 : 1 ≤ k := by obtain ⟨_, ⟨h, _⟩, _⟩ := right_says hR; omega
    have s2 := b2.size
    have hl2 := q1.lt
    clear l1 l2 l3 f1 f2 f3 hC h1 h2 h3 hp
    go_wp2_with (first
      | (refine onS 2 ?_; refine wpList_store_blk (w := w2) rfl 31 _ _ rfl w.heap.size 42 rfl 31 (jb Z K A1 n1 c1 A2 n2 c2 A3 n3 c3 pr pk pb pw A n c) (jb Z (k : Int) B1 m1 d1 B2 m2 d2 B3 m3 d3 (r : Int) (k : Int) (b : Int) (wk : Int) A' r c') rfl q1 size_job rfl rfl (jb_one hZ ..) ?_; intro w3 q1 g3 _; have b3 := b2.grown g3 s2 (fun r e => by cases e; exact Nat.le_refl _); have s3 := g3.size; have lp := (lst_off lp (Nat.le_refl _) g3 (fun h0 b off e => by have := fp h0 b off e; omega)).more s3; have hT3 := hT.below b3 hT.lt; have h38 : w3.cell? ⟨w.heap.size, 38, none⟩ = some (.int .i64 (k : Int)) := q1.cell (i := 38) rfl)
      | (refine on 12 ?_; refine wpList_build_blk rfl 26 _ rfl #[.int .i64 (k : Int), .slice none 0 0, .slice none 0 0, .slice none 0 0] (by kernel_rfl) ?_)
      | (refine onS 13 ?_; refine wpList_store_sub (w := w3) rfl 26 _ _ rfl w.heap.size 33 rfl 31 (jb Z (k : Int) B1 m1 d1 B2 m2 d2 B3 m3 d3 (r : Int) (k : Int) (b : Int) (wk : Int) A' r c') #[.int .i64 (k : Int), .slice none 0 0, .slice none 0 0, .slice none 0 0] (jb Z (k : Int) none 0 0 none 0 0 none 0 0 (r : Int) (k : Int) (b : Int) (wk : Int) A' r c') rfl q1 (by show 33 + 4 ≤ 42; omega) info_prog (by kernel_rfl) (jb_prog ..) ?_; intro w4 q1 g4; have s4 := g4.size; have b4 := b3.grown g4 (by omega) (fun r e => by cases e; exact Nat.le_refl _); have lp := (lst_off lp (Nat.le_refl _) g4 (fun h0 b off e => by have := fp h0 b off e; omega)).more s4)
      | (refine on 15 ?_; refine wpList_build_blk rfl 58 _ rfl #[.int .i64 12, .int .i64 0, .int .i64 0, .int .i64 1, .int .i64 7, .int .i64 0] (by kernel_rfl) ?_)
      | (refine on 16 ?_; refine wpList_build_lst (w := w4) (k := kO) rfl 24 58 1 _ rfl Tryd.underlying24 _ 48 op_info rfl [OD] rfl (by kernel_rfl) (by omega) (by decide) ?_; intro w5 q5 g5 z5; have q1 := q1.grown g5 (by simp); have s5 := g5.size; have lp := (lp.below ((Below.refl _ _).grown g5 (Nat.le_refl _) (by simp))).more s5; have b5 := b4.grown g5 (by omega) (by simp); have l5 : Lst kO w5 w5.heap.size (some ⟨w4.heap.size, 0, none⟩) 1 [OD] := lst_whole q5 rfl OD_wf)
      | (refine onS 18 ?_; refine wpList_store_field (w := w5) rfl 24 _ _ rfl w.heap.size 34 rfl 31 (jb Z (k : Int) none 0 0 none 0 0 none 0 0 (r : Int) (k : Int) (b : Int) (wk : Int) A' r c') (.slice (some ⟨w4.heap.size, 0, none⟩) 1 1) rfl q1 (jb_lt _ _ _ _ _ _ _ _ _ _ _ _ _ _ _ _ _ _ (by omega)) (by kernel_rfl) rfl rfl ?_; intro w6 q1 g6 _; rw [jb_34] at q1; have s6 := g6.size; have b6 := b5.grown g6 (by omega) (fun r e => by cases e; exact Nat.le_refl _); have lp := (lst_off lp (Nat.le_refl _) g6 (fun h0 b off e => by have := fp h0 b off e; omega)).more s6; have l5 := (lst_off l5 (Nat.le_refl _) g6 (fun h0 b off e => by injection e with e; injection e with e; omega)).more s6; have hr33 : w6.rangeAt w.heap.size 33 [.int .i64 (k : Int), .slice (some ⟨w4.heap.size, 0, none⟩) 1 1, .slice none 0 0, .slice none 0 0] := blk_range q1 (by rfl); have hr37 : w6.rangeAt w.heap.size 37 [.int .i64 (r : Int), .int .i64 (k : Int), .int .i64 (b : Int), .int .i64 (wk : Int)] := blk_range q1 (by rfl); have h41 : w6.cell? ⟨w.heap.size, 41, none⟩ = some (.slice A' r c') := q1.cell (i := 41) rfl; have bW := b6; have sW : w.heap.size ≤ w6.heap.size := bW.size)
      | (refine on 21 ?_; refine wpList_run (w := w6) rfl (v := .agg #[.int .i64 (k : Int), .slice (some ⟨w4.heap.size, 0, none⟩) 1 1, .slice none 0 0, .slice none 0 0]) (y_load_range (S := fun W => W = w6) (n := 4) (cs := [.int .i64 (k : Int), .slice (some ⟨w4.heap.size, 0, none⟩) 1 1, .slice none 0 0, .slice none 0 0]) rfl rfl Tryd.underlying26 rfl info_prog rfl (fun W hW => by rw [hW]; exact hr33) _ rfl) ?_)
      | (refine on 23 ?_; refine wpList_run (w := w6) rfl (v := .agg #[.int .i64 (r : Int), .int .i64 (k : Int), .int .i64 (b : Int), .int .i64 (wk : Int)]) (y_load_range (S := fun W => W = w6) (n := 4) (cs := [.int .i64 (r : Int), .int .i64 (k : Int), .int .i64 (b : Int), .int .i64 (wk : Int)]) rfl rfl Tryd.underlying28 rfl size_params rfl (fun W hW => by rw [hW]; exact hr37) _ rfl) ?_))
    refine (run_told w6.heap.size k b r (wk : Int) (some ⟨w4.heap.size, 0, none⟩) none none A' 1 1 0 0 0 0 c' [OD] [] [] qs w6 l5 (Lst.nil _ _ _ _) (Lst.nil _ _ _ _) lp (Nat.le_refl _) (dead_check k hk1 hk2) hR (hT.below bW hT.lt)).mono ?_
    rintro e w7 ⟨v, X, rfl, o7, _, hX, b7⟩
    obtain rfl := told_none hX (dead_live k qs)
    rw [List.map_nil] at o7
    obtain ⟨A7, c7, rfl, _⟩ := OwnL.form o7
    have b7 := bW.trans (b7.mono (by omega))
    clear hT o7 hX q1 lp hr33 hr37 h41
    go_wp2_with fail
    refine (awake16_any w7).mono ?_
    rintro e w8 ⟨rfl, b8⟩
    have b8 := b7.trans (b8.mono b7.size)
    go_wp2_with fail
    go_ret
    exact ⟨rfl, b8⟩
  | false =>
    go_wp2_with (first
      | (refine on 2 ?_; refine wpList_box_blk (w := w) rfl 31 _ rfl (jb Z K A1 n1 c1 A2 n2 c2 A3 n3 c3 pr pk pb pw A n c) rfl ?_; intro w1 q1 g1 z1)
      | (refine on 7 ?_; refine wpList_load_blk (w := w1) rfl 31 _ rfl w.heap.size 42 rfl 31 _ q1 _ Tryd.underlying31 rfl size_job rfl ?_))
    have b1 : Below w.heap.size w w1 := (Below.refl _ w).grown g1 (Nat.le_refl _) (by simp)
    have s1 : w1.heap.size = w.heap.size + 1 := z1.out
    refine (right_any_job w.heap.size Z K A1 n1 c1 x1 A2 n2 c2 x2 A3 n3 c3 x3 pr pk pb pw A n c ps w1 hZ (h1.below b1) (h2.below b1) (h3.below b1) (hp.below b1) hnc hcm (by omega)).mono ?_
    rintro e w2 ⟨B1, B2, B3, m1, d1, m2, d2, m3, d3, y1, y2, y3, r, k, b, wk, A', c', qs, rfl, l1, l2, l3, lp, ⟨f1, f2, f3, fp, hrc, hcm2⟩, hC, hR, hr6, hk2, hb3, hw3, b2⟩
    have q1 := q1.after b2
    have b2 := b1.trans (b2.mono (by omega))
    have hk1 : 1 ≤ k := by obtain ⟨_, ⟨h, _⟩, _⟩ := right_says hR; omega
    have s2 := b2.size
    have hl2 := q1.lt
    clear l1 l2 l3 f1 f2 f3 hC h1 h2 h3 hp
    go_wp2_with (first
      | (refine onS 2 ?_; refine wpList_store_blk (w := w2) rfl 31 _ _ rfl w.heap.size 42 rfl 31 (jb Z K A1 n1 c1 A2 n2 c2 A3 n3 c3 pr pk pb pw A n c) (jb Z (k : Int) B1 m1 d1 B2 m2 d2 B3 m3 d3 (r : Int) (k : Int) (b : Int) (wk : Int) A' r c') rfl q1 size_job rfl rfl (jb_one hZ ..) ?_; intro w3 q1 g3 _; have b3 := b2.grown g3 s2 (fun r e => by cases e; exact Nat.le_refl _); have s3 := g3.size; have lp := (lst_off lp (Nat.le_refl _) g3 (fun h0 b off e => by have := fp h0 b off e; omega)).more s3; have hT3 := hT.below b3 hT.lt; have h38 : w3.cell? ⟨w.heap.size, 38, none⟩ = some (.int .i64 (k : Int)) := q1.cell (i := 38) rfl)
      | (refine on 12 ?_; refine wpList_build_blk rfl 26 _ rfl #[.int .i64 (k : Int), .slice none 0 0, .slice none 0 0, .slice none 0 0] (by kernel_rfl) ?_)
      | (refine onS 13 ?_; refine wpList_store_sub (w := w3) rfl 26 _ _ rfl w.heap.size 33 rfl 31 (jb Z (k : Int) B1 m1 d1 B2 m2 d2 B3 m3 d3 (r : Int) (k : Int) (b : Int) (wk : Int) A' r c') #[.int .i64 (k : Int), .slice none 0 0, .slice none 0 0, .slice none 0 0] (jb Z (k : Int) none 0 0 none 0 0 none 0 0 (r : Int) (k : Int) (b : Int) (wk : Int) A' r c') rfl q1 (by show 33 + 4 ≤ 42; omega) info_prog (by kernel_rfl) (jb_prog ..) ?_; intro w4 q1 g4; have s4 := g4.size; have b4 := b3.grown g4 (by omega) (fun r e => by cases e; exact Nat.le_refl _); have lp := (lst_off lp (Nat.le_refl _) g4 (fun h0 b off e => by have := fp h0 b off e; omega)).more s4; have hr33 : w4.rangeAt w.heap.size 33 [.int .i64 (k : Int), .slice none 0 0, .slice none 0 0, .slice none 0 0] := blk_range q1 (by rfl); have hr37 : w4.rangeAt w.heap.size 37 [.int .i64 (r : Int), .int .i64 (k : Int), .int .i64 (b : Int), .int .i64 (wk : Int)] := blk_range q1 (by rfl); have h41 : w4.cell? ⟨w.heap.size, 41, none⟩ = some (.slice A' r c') := q1.cell (i := 41) rfl; have bW := b4; have sW : w.heap.size ≤ w4.heap.size := bW.size)
      | (refine on 21 ?_; refine wpList_run (w := w4) rfl (v := .agg #[.int .i64 (k : Int), .slice none 0 0, .slice none 0 0, .slice none 0 0]) (y_load_range (S := fun W => W = w4) (n := 4) (cs := [.int .i64 (k : Int), .slice none 0 0, .slice none 0 0, .slice none 0 0]) rfl rfl Tryd.underlying26 rfl info_prog rfl (fun W hW => by rw [hW]; exact hr33) _ rfl) ?_)
      | (refine on 23 ?_; refine wpList_run (w := w4) rfl (v := .agg #[.int .i64 (r : Int), .int .i64 (k : Int), .int .i64 (b : Int), .int .i64 (wk : Int)]) (y_load_range (S := fun W => W = w4) (n := 4) (cs := [.int .i64 (r : Int), .int .i64 (k : Int), .int .i64 (b : Int), .int .i64 (wk : Int)]) rfl rfl Tryd.underlying28 rfl size_params rfl (fun W hW => by rw [hW]; exact hr37) _ rfl) ?_))
    refine (run_told w4.heap.size k b r (wk : Int) none none none A' 0 0 0 0 0 0 c' [] [] [] qs w4 (Lst.nil _ _ _ _) (Lst.nil _ _ _ _) (Lst.nil _ _ _ _) lp (Nat.le_refl _) (none_check k hk1 hk2) hR (hT.below bW hT.lt)).mono ?_
    rintro e w7 ⟨v, X, rfl, o7, _, hX, b7⟩
    obtain rfl := told_none hX (none_live k qs)
    rw [List.map_nil] at o7
    obtain ⟨A7, c7, rfl, _⟩ := OwnL.form o7
    have b7 := bW.trans (b7.mono (by omega))
    clear hT o7 hX q1 lp hr33 hr37 h41
    go_wp2_with fail
    refine (awake16_any w7).mono ?_
    rintro e w8 ⟨rfl, b8⟩
    have b8 := b7.trans (b8.mono b7.size)
    go_wp2_with fail
    go_ret
    exact ⟨rfl, b8⟩
theorem walk (Z0 : Nat → Value) (K0 : Int) (Aa0 : Option Addr) (na0 ca0 : Nat) (xa0 : List Vm.O) (Ab0 : Option Addr) (nb0 cb0 : Nat) (xb0 : List Vm.O) (Ac0 : Option Addr) (nc0 cc0 : Nat) (xc0 : List Vm.O) (pr0 pk0 pb0 pw0 : Int) (A0 : Option Addr) (n0 c0 : Nat) (ps0 : List (Int × Int)) (a1 : Bool) (w : World) (hZ0 : Pi.Zok Z0) (ha0 : Sl.Lst Vm.kO w w.heap.size Aa0 na0 xa0) (hb0 : Sl.Lst Vm.kO w w.heap.size Ab0 nb0 xb0) (hc0 : Sl.Lst Vm.kO w w.heap.size Ac0 nc0 xc0) (hp0 : Sl.Lst Sp.kP w w.heap.size A0 n0 ps0) (hnc0 : n0 ≤ c0) (hcm0 : c0 ≤ maxLen) (hL : laidMetH Tryd.prog laidList w) :
    Calls Tryd.prog 7 #[.agg (Pi.jb Z0 K0 Aa0 na0 ca0 Ab0 nb0 cb0 Ac0 nc0 cc0 pr0 pk0 pb0 pw0 A0 n0 c0), .bool a1] w fun e w' => e = .returned (.bool true) ∧ Below w.heap.size w w' := by
  exact start Z0 K0 Aa0 na0 ca0 xa0 Ab0 nb0 cb0 xb0 Ac0 nc0 cc0 xc0 pr0 pk0 pb0 pw0 A0 n0 c0 ps0 a1 w hZ0 ha0 hb0 hc0 hp0 hnc0 hcm0 (Bi.bits_of_laid hL)
set_option maxRecDepth 100000 in
theorem door_met (os : Os) (args : Array Value) : laidMetH Tryd.prog laidList ((World.doorLaid Tryd.prog 400 os).forCall (fun _ _ => 0) ⟨#[], args, []⟩).memory :=
  laidMetH_of_parts3 (fuel := 8) (laidMet_of_run' 8 (by kernel_rfl) (by kernel_rfl)) (by kernel_rfl) (by kernel_rfl)
set_option maxRecDepth 100000 in
theorem lifted (os : Os) (started : os.Started) (H : Type) (enc : TypeId × Value → H) :
    ReturnsInHanded {} Tryd.checked os 7 .any (fun w args => (Rows.pipeNoneSpec.pre enc Tryd.prog Tryd.f7 [] false w args ∧ laidMetH Tryd.prog laidList w) ∧ sizedMet enc Tryd.prog Tryd.f7 (OpenSpec.ofChange Rows.pipeNoneSpec) false w args)
      (Rows.pipeNoneSpec.post enc Tryd.prog Tryd.f7 false true false false) := by
  refine returnsInHanded_of_change_and (C := Tryd.checked) (X := fun w _ => laidMetH Tryd.prog laidList w) (fun _ _ _ hh h => h.of_heap hh) own started (by kernel_rfl) Tryd.func7
    (ChangeSpec.witness_shaped (enc := enc) (C := Tryd.checked) (os := os) (X := fun w _ => laidMetH Tryd.prog laidList w) false (World.doorLaid Tryd.prog 400 os) #[.agg #[.int .u8 0, .int .u8 0, .int .u8 0, .int .u8 0, .int .u8 0, .int .u8 0, .int .u8 0, .int .u8 0, .int .u8 0, .int .u8 0, .int .u8 0, .int .u8 0, .int .u8 0, .int .u8 0, .int .u8 0, .int .u8 0, .int .u8 0, .int .u8 0, .int .u8 0, .int .u8 0, .int .u8 0, .int .u8 0, .int .u8 0, .int .u8 0, .int .u8 0, .int .u8 0, .int .u8 0, .int .u8 0, .int .u8 0, .int .u8 0, .int .u8 0, .int .u8 0, .int .u64 0, .int .i64 0, .slice none 0 0, .slice none 0 0, .slice none 0 0, .int .i64 0, .int .i64 0, .int .i64 0, .int .i64 0, .slice none 0 0], .bool false] 8 rfl (World.shaped_of_RefB (by kernel_rfl) (by kernel_rfl)) (by kernel_rfl) (by kernel_rfl) (by kernel_rfl) (door_met os _)) ?_
  intro W base args ds gs before hval0 hW _ _ hL _
  have hval : ∀ (j : Nat) t v, Tryd.f7.params[j]? = some t → args[j]? = some v → Value.okWide Tryd.prog W .any base t v := hval0
  have hW' := hW
  obtain ⟨p, q, hA0, hV, rfl, hfz, hnd⟩ := hW
  have hA : DataW.TrodAll enc Tryd.prog W 0 (fun _ => true) true Tryd.f7.params.toList args.toList ds p := hA0
  rw [Tryd.params7] at hA hval
  obtain ⟨v0, vs0, d0, ds0, p0, q0, hargs, rfl, rfl, h0, r0⟩ := trodAll_cons hA
  obtain ⟨v1, vs1, d1, ds1, p1, q1, rfl, rfl, rfl, h1, r1⟩ := trodAll_cons r0
  obtain ⟨rfl, rfl, rfl⟩ := trodAll_nil r1
  obtain rfl : args = #[v0, v1] := by cases args; simp_all
  obtain ⟨rfl, rfl⟩ := trodVars_none hV
  have kk0 := h0
  have lt0 : ∀ x ∈ p0, x.block < W.heap.size := by obtain ⟨m, hm⟩ := kk0; exact DataW.trod_lt m _ _ _ hm
  obtain ⟨Z0, K0, Aa0, na0, ca0, xa0, Ab0, nb0, cb0, xb0, Ac0, nc0, cc0, xc0, pr0, pk0, pb0, pw0, A0, n0, c0, ps0, rfl, hZ0, wK0, ha0, hb0, hc0, wp0, hp0⟩ := Pi.open_job (hval 0 31 v0 rfl rfl) h0
  obtain ⟨a1, rfl, rfl, rfl⟩ := open_bool Tryd.underlying4 (hval 1 4 v1 rfl rfl) h1
  clear hA0 hval0
  refine (walk Z0 K0 Aa0 na0 ca0 xa0 Ab0 nb0 cb0 xb0 Ac0 nc0 cc0 xc0 pr0 pk0 pb0 pw0 A0 n0 c0 ps0 a1 W hZ0 ha0.1 hb0.1 hc0.1 hp0.1 hp0.2.1 hp0.2.2 hL).mono fun e W' ⟨he, bel⟩ => ?_
  subst he
  exact ⟨_, rfl, _, _, _, [], _, [], hW', trodAll_mk1 (shut_bool Tryd.underlying4 _), (trodAll_cons_mk (Below.trod laidOut (by kernel_rfl) (of_decide_eq_true (by kernel_rfl)) kk0 bel lt0) (trodAll_cons_mk (shut_bool Tryd.underlying4 _) trodAll_mk0)), rfl, bel.frame _, fun h => by cases h⟩
theorem over : Rows.pipeNoneRow.holds Tryd.pinned (OpenSpec.ofChange Rows.pipeNoneSpec) :=
  OpenClaim.holds_of_wide 7 Tryd.f7 rfl rfl rfl rfl rfl rfl rfl ⟨rfl, rfl, rfl, rfl, rfl⟩ rfl rfl rfl rfl rfl (by kernel_rfl) Tryd.func7 (by kernel_rfl)
    (of_decide_eq_true (by kernel_rfl)) (by unfold Func.isWrapper; first | (rw [if_pos (by decide +kernel)]; kernel_rfl) | (rw [if_neg (by decide +kernel)]; exact ⟨rfl, rfl⟩))
    (fun os started H enc _ => lifted os started H enc)
theorem proved : Rows.PipeNoneCardSaid :=
  Claim7.holds_tied_plain_at .later [] [.data, .data] true (true, "a149d18c0653b1648f16848b2da2c696ebc66272bb5a5a3ee711bd8e17f0b6c7") false
    over (fun _ h => by cases h) (by kernel_rfl) (fun _ h => by cases h) pipeNone_row_tie rfl ⟨rfl, rfl⟩ (by kernel_rfl) rfl
    (fun f fn hf hfn => by
      obtain rfl : f = 7 := Option.some.inj ((show Tryd.prog.funcNamed "domino/dominolaw16.PipeNone" = some 7 by kernel_rfl).symm.trans hf) |>.symm
      obtain rfl : fn = Tryd.f7 := (Option.some.inj (Tryd.func7.symm.trans hfn)).symm
      exact ⟨by kernel_rfl, fun j t ht => by
        rw [Tryd.params7] at ht
        have hm : t ∈ [31, 4] := by simpa using Array.mem_of_getElem? ht
        have hall : ([31, 4].all fun u => !Tryd.prog.wantsStandIn u) = true := by kernel_rfl
        exact (show Tryd.prog.wantsStandIn t = false by simpa using List.all_eq_true.1 hall t hm)⟩)
    (by kernel_rfl)
#print axioms proved
end Go.Proofs.YtlinmcgmkpkpaaaDoor.pipeNone
