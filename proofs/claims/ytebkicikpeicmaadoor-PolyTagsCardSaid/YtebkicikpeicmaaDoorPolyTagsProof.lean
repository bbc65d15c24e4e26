/-
  The law PolyTags of package dominolaw06 returns true for every key and every list of texts: the tag of any bytes, in any parts, with any key, is the document's own, and so is what is clamped; what is handed in stays. The table of kept bits of package poly holds what the program's text lays.
-/
import Derived.Test.YtebkicikpeicmaaDoorRows
import Derived.Test.YtebkicikpeicmaaDoorCards
import Derived.Test.YtebkicikpeicmaaDoorTie
import Derived.SevenTiedAt
import Derived.WalkKit
import Derived.ProofKit
import Derived.OpenShut
import Derived.ShutString
import Derived.ChangeOld
import Derived.Below
import Derived.LaidMore
import Derived.Stop.Joined
import Derived.Test.YtebkicikpeicmaaDoorPy7
import Derived.Test.YtebkicikpeicmaaDoorCut
import Derived.Test.YtebkicikpeicmaaDoorArrP
namespace Go.Proofs.YtebkicikpeicmaaDoor.polyTags
open Go.ChangeShapes Go.WideShapes Go.ChangeAt Go.RowKit
open Go.ChangeMaps (open_string shut_string)
open Go.Shelf Go.Proofs.YtebkicikpeicmaaDoor.Mem Go.Proofs.YtebkicikpeicmaaDoor.Help Go.Proofs.YtebkicikpeicmaaDoor.Sum Go.Proofs.YtebkicikpeicmaaDoor.Sha Go.Proofs.YtebkicikpeicmaaDoor.Po Go.Proofs.YtebkicikpeicmaaDoor
set_option linter.unusedVariables false

theorem own : ownKnob Tryd.prog.godebug = none := by kernel_rfl
theorem laidOut : laidOutB Tryd.prog = true := by kernel_rfl

/-- what a slice that came in leads to -/
def IsRow (k : IntKind) (w : World) (a : Option Addr) (len cap : Nat) (zs : List Int) : Prop :=
  (a = none ∧ len = 0 ∧ cap = 0 ∧ zs = []) ∨
  ∃ x, a = some x ∧ len ≤ cap ∧ cap ≤ maxLen ∧ zs.length = cap ∧ (∀ i, i < zs.length → w.cell? (x.add i) = some (.int k (zs.getD i 0))) ∧ ∀ n ∈ zs, (Lit.int k n).wf = true

def laidList : List (String × DataW Unit) := [("domino/poly.kept", Rows.laid_domino_poly_kept)]

attribute [local irreducible] wpList Calls
theorem info_bytes : (Tryd.prog.info? 25).map (fun i => (i.zero, i.size, i.bytes)) = some (some (.slice none 0 0), 1, 24) := by kernel_rfl
theorem kept_b (B : Nat) (A : Option Addr) (n c g : Nat) (zs : List Int) (f : Int) (w : World) (h : Ints w .u8 B A n zs) (hn : n ≤ 1099511627776) (hr : Row w g 5 .u8 (zs ++ [f, f, f])) :
    Calls Tryd.prog 15 #[.slice (some ⟨g, 0, none⟩) n (n + 3), .slice A n c, .int .u8 f] w fun e w' => e = .returned (.bool true) ∧ Below w.heap.size w w' :=
  (kept_any B A n c g zs f w h hn hr).mono fun _ _ ⟨h1, h2⟩ => ⟨h1, h2.below _⟩
set_option maxRecDepth 100000 in
set_option maxHeartbeats 8000000 in
theorem start (key : List Int) (A : Option Addr) (m c : Nat) (vs : List Value) (xss : List (List Int)) (w : World) (h : Vals w w.heap.size A m vs) (ht : Texts w w.heap.size vs xss)
    (hk : key.length = 32) (hkb : Bs key) (hT : TabK w 0 .u8 keptI) :
    Calls Tryd.prog 3 #[.agg (arr .u8 key), .slice A m c] w fun e w' => e = .returned (.bool true) ∧ Below w.heap.size w w' := by
  have HK := Lib.hid hk
  clear hk
  go_enter Tryd.func3, Tryd.ntmps3
  by_cases hbig : 20 < m
  · have q1 : (20 : Int) < (m : Int) := by omega
    go_wp2_with (refine wpList_box_Row (w := w) rfl 22 _ rfl .u8 key rfl (bs_wf hkb) ?_; intro w1 r1 g1 z1)
    have b1 : Below w.heap.size w w1 := (Below.refl _ w).grown g1 (Nat.le_refl _) (by simp)
    refine (awake6_b _ (hT.below b1 hT.lt)).mono ?_
    rintro e w' ⟨rfl, hb⟩
    go_wp2_with fail
    go_ret
    exact ⟨rfl, b1.trans (hb.mono b1.size)⟩
  have hm1 : ¬ (20 : Int) < (m : Int) := by omega
  have HV := Lib.hid h.1
  have HX := Lib.hid ht.1
  go_wp2_with (refine wpList_box_Row (w := w) rfl 22 _ rfl .u8 key rfl (bs_wf hkb) ?_; intro w1 r1 g1 z1)
  have b1 : Below w.heap.size w w1 := (Below.refl _ w).grown g1 (Nat.le_refl _) (by simp)
  have hs1 : w.heap.size + 1 ≤ w1.heap.size := r1.lt
  clear g1 z1
  go_loopw [5, 6] (fun v i wr => ∃ k : Nat, k ≤ m ∧ i = .int .i64 k ∧ Mem.Own wr (w.heap.size + 1) 5 .u8 v (xss.take k).flatten ∧ (xss.take k).flatten.length ≤ 1000 * k ∧ Below w.heap.size w wr ∧ Row wr w.heap.size 22 .u8 key) (fun _ i _ => m - (intOf i).toNat)
  case atStart => exact ⟨0, by omega, rfl, Mem.Own.nil _ _ _ _, by simp, b1, r1⟩
  case round =>
    clear b1 r1
    obtain ⟨k, hkm, rfl, hown, hlen, hbw, kr⟩ := hrel
    have hs : w.heap.size + 1 ≤ wr.heap.size := kr.lt
    by_cases hlt : k < m
    · obtain ⟨b, off, rfl, hb, hc⟩ := (h.below hbw).at_ hlt
      obtain ⟨A1, n1, c1, e1, hc1, hm1', hi1⟩ := (ht.below hbw).2 k (by rw [HV.out]; exact hlt)
      rw [e1] at hc
      have hlt' : (k : Int) < (m : Int) := by omega
      have hk0 : (0 : Int) ≤ (k : Int) := by omega
      have HN1 := Lib.hid hi1.1
      have HS := Lib.hid (flat_succ xss (k := k) (by have := HV.out; have := HX.out; omega))
      clear e1
      by_cases hbig : 1000 < n1
      · have hbig' : (1000 : Int) < (n1 : Int) := by omega
        go_wp2_with fail
        refine (awake6_b _ (hT.below hbw hT.lt)).mono ?_
        rintro e w' ⟨rfl, hb'⟩
        go_wp2_with fail
        go_ret
        exact ⟨rfl, hbw.trans (hb'.mono hbw.size)⟩
      · have hbig' : ¬ (1000 : Int) < (n1 : Int) := by omega
        go_wp2_with (at_builtin; refine wpList_append_ints _ rfl _ _ 25 rfl (w.heap.size + 1) 5 .u8 1 Tryd.underlying25 Help.info_u8 _ _ rfl hown w.heap.size A1 n1 c1 (xss.getD k []) rfl hi1 (by omega) (by omega) hs ?_; intro v2 w2 hown2 hg2 hat2)
        have hb2 : Below w.heap.size w w2 := hbw.grown hg2 hbw.size (fun q hq => by have := (hown.2.lt q hq).1; omega)
        have kr2 := kr.grown hg2 (fun e => by have := (hown.2.lt _ e.symm).1; omega)
        go_roundw
        case rel => exact ⟨k + 1, by omega, by go_num, by rw [HS.out]; exact hown2, by rw [HS.out, List.length_append, HN1.out]; omega, hb2, kr2⟩
        case measure => simp [intOf]; omega
    · have hkm : k = m := by omega
      subst hkm
      have eall : (xss.take k).flatten = xss.flatten := by rw [List.take_of_length_le (by have := HV.out; have := HX.out; omega)]
      rw [eall] at hown hlen
      clear eall
      have hxb := ht.bs
      obtain ⟨all, hall⟩ : ∃ all, xss.flatten = all := ⟨_, rfl⟩
      have HXB := Lib.hid hxb
      have HLEN := Lib.hid (show xss.flatten.length ≤ 1099511627776 by omega)
      rw [hall] at hown hlen hxb
      have HAB := Lib.hid hxb
      have HA := Lib.hid hall
      clear hall hxb
      obtain ⟨A3, c3, rfl, _, _, i3⟩ := hown.form
      obtain ⟨q, hq⟩ : ∃ q, all.length = q := ⟨_, rfl⟩
      rw [hq] at i3 hlen ⊢
      have HN := Lib.hid hq
      clear hq hown
      have hq20 : q ≤ 20000 := by omega
      go_wp2_with fail
      refine (own_any _ A3 q c3 all 71 _ i3 (Nat.le_refl _) (by omega) rfl).mono ?_
      rintro e wz ⟨g1, rfl, hg1, rz, c1⟩
      have b := hbw.trans (c1.mono hbw.size)
      have kz := kr.below c1 kr.lt
      have i3 := (i3.below c1).more c1.size
      have hz := (h.below b).more b.size
      have htz := (ht.below b).more b.size
      have ig := row_ints3 rz HN.out
      have HPL := Lib.hid (poly_length key all)
      have HCL := Lib.hid (clamp_length key)
      clear c1 hbw kr hs
      go_wp2_with fail
      refine wp_region_held (S := fun W => Below wz.heap.size wz W) (by kernel_rfl) ?_
      change wpAnyH _ _ _ _ _ _ _ _ wz.drew
      have c0_0 := (Below.refl wz.heap.size wz).drew
      refine Held.one 0 (by kernel_rfl) ?_
      refine Held.op_call 0 (some 33) 9 #[] rfl rfl rfl rfl (enters_of Tryd.func9 (by kernel_rfl) rfl) (by simp)
        (awake6_b _ (hT.below (b.trans (c0_0.mono b.size)) hT.lt)) ?_
      rintro e w1 ⟨rfl, b1⟩
      have c0_1 := c0_0.trans (b1.mono c0_0.size)
      refine ⟨_, rfl, c0_1, ?_⟩
      simp only [Act.put, List.setIfInBounds_toArray, List.set_cons_zero, List.set_cons_succ]
      refine Held.take (v := .bool true) 1 (some 34) rfl rfl (by kernel_rfl) (by kernel_rfl) (by kernel_rfl) (fun _ _ _ h => h) rfl (Held.y_move rfl rfl) c0_1 ?_
      simp only [Act.put, List.setIfInBounds_toArray, List.set_cons_zero, List.set_cons_succ]
      refine Held.take (v := .agg (arr .u8 key)) 2 (some 35) rfl rfl (by kernel_rfl) (by kernel_rfl) (by kernel_rfl) (fun _ _ _ h => h) rfl (Held.y_load_Row (zs := key) rfl rfl Tryd.underlying22 info_key HK.out (fun W hW => Row.below kz hW kz.lt)) c0_1 ?_
      simp only [Act.put, List.setIfInBounds_toArray, List.set_cons_zero, List.set_cons_succ]
      refine Held.take (v := .slice A k c) 3 (some 36) rfl rfl (by kernel_rfl) (by kernel_rfl) (by kernel_rfl) (fun _ _ _ h => h) rfl (Held.y_move rfl rfl) c0_1 ?_
      simp only [Act.put, List.setIfInBounds_toArray, List.set_cons_zero, List.set_cons_succ]
      refine Held.take (v := .agg (arr .u8 key)) 5 (some 38) rfl rfl (by kernel_rfl) (by kernel_rfl) (by kernel_rfl) (fun _ _ _ h => h) rfl (Held.y_load_Row (zs := key) rfl rfl Tryd.underlying22 info_key HK.out (fun W hW => Row.below kz hW kz.lt)) c0_1 ?_
      simp only [Act.put, List.setIfInBounds_toArray, List.set_cons_zero, List.set_cons_succ]
      refine Held.take (v := .slice A3 q c3) 6 (some 39) rfl rfl (by kernel_rfl) (by kernel_rfl) (by kernel_rfl) (fun _ _ _ h => h) rfl (Held.y_move rfl rfl) c0_1 ?_
      simp only [Act.put, List.setIfInBounds_toArray, List.set_cons_zero, List.set_cons_succ]
      refine Held.one 4 (by kernel_rfl) ?_
      refine Held.op_call 4 (some 37) 11 #[.agg (arr .u8 key), .slice A k c] rfl rfl rfl rfl (enters_of Tryd.func11 (by kernel_rfl) rfl) (by simp [Act.eval])
        (tag_any key wz.heap.size A k c vs xss _ HK.out hkb (hz.below c0_1) (htz.below c0_1) c0_1.size (by omega) HLEN.out HXB.out (hT.below (b.trans (c0_1.mono b.size)) hT.lt)) ?_
      rw [HA.out]
      rintro e w2 ⟨rfl, b2⟩
      have c0_2 := c0_1.trans (b2.mono c0_1.size)
      refine ⟨_, rfl, c0_2, ?_⟩
      simp only [Act.put, List.setIfInBounds_toArray, List.set_cons_zero, List.set_cons_succ]
      refine Held.one 7 (by kernel_rfl) ?_
      refine Held.op_call 7 (some 40) 12 #[.agg (arr .u8 key), .slice A3 q c3] rfl rfl rfl rfl (enters_of Tryd.func12 (by kernel_rfl) rfl) (by simp [Act.eval])
        (rtag_any key wz.heap.size A3 q c3 all _ HK.out hkb (i3.below c0_2) HAB.out c0_2.size (by omega)) ?_
      rintro e w3 ⟨rfl, b3⟩
      have c0_3 := c0_2.trans (b3.mono c0_2.size)
      refine ⟨_, rfl, c0_3, ?_⟩
      simp only [Act.put, List.setIfInBounds_toArray, List.set_cons_zero, List.set_cons_succ]
      refine Held.take (v := .bool true) 8 (some 41) rfl rfl (by kernel_rfl) (by kernel_rfl) (by kernel_rfl) (fun _ _ _ h => h) rfl (Held.y_eql rfl rfl rfl (by kernel_rfl) Tryd.underlying27 Tryd.underlying5 (by kernel_rfl) HPL.out) c0_3 ?_
      simp only [Act.put, List.setIfInBounds_toArray, List.set_cons_zero, List.set_cons_succ]
      refine Held.take (v := .bool true) 9 (some 42) rfl rfl (by kernel_rfl) (by kernel_rfl) (by kernel_rfl) (fun _ _ _ h => h) rfl (Held.y_pick rfl rfl rfl) c0_3 ?_
      simp only [Act.put, List.setIfInBounds_toArray, List.set_cons_zero, List.set_cons_succ]
      refine Held.take (v := .bool true) 10 (some 43) rfl rfl (by kernel_rfl) (by kernel_rfl) (by kernel_rfl) (fun _ _ _ h => h) rfl (Held.y_move rfl rfl) c0_3 ?_
      simp only [Act.put, List.setIfInBounds_toArray, List.set_cons_zero, List.set_cons_succ]
      refine Held.take (v := .agg (arr .u8 key)) 11 (some 44) rfl rfl (by kernel_rfl) (by kernel_rfl) (by kernel_rfl) (fun _ _ _ h => h) rfl (Held.y_load_Row (zs := key) rfl rfl Tryd.underlying22 info_key HK.out (fun W hW => Row.below kz hW kz.lt)) c0_3 ?_
      simp only [Act.put, List.setIfInBounds_toArray, List.set_cons_zero, List.set_cons_succ]
      refine Held.take (v := .slice (some ⟨g1, 0, none⟩) q (q + 3)) 12 (some 45) rfl rfl (by kernel_rfl) (by kernel_rfl) (by kernel_rfl) (fun _ _ _ h => h) rfl (Held.y_move rfl rfl) c0_3 ?_
      simp only [Act.put, List.setIfInBounds_toArray, List.set_cons_zero, List.set_cons_succ]
      refine Held.take (v := .agg (arr .u8 key)) 15 (some 48) rfl rfl (by kernel_rfl) (by kernel_rfl) (by kernel_rfl) (fun _ _ _ h => h) rfl (Held.y_load_Row (zs := key) rfl rfl Tryd.underlying22 info_key HK.out (fun W hW => Row.below kz hW kz.lt)) c0_3 ?_
      simp only [Act.put, List.setIfInBounds_toArray, List.set_cons_zero, List.set_cons_succ]
      refine Held.take (v := .slice A3 q c3) 16 (some 49) rfl rfl (by kernel_rfl) (by kernel_rfl) (by kernel_rfl) (fun _ _ _ h => h) rfl (Held.y_move rfl rfl) c0_3 ?_
      simp only [Act.put, List.setIfInBounds_toArray, List.set_cons_zero, List.set_cons_succ]
      refine Held.one 13 (by kernel_rfl) ?_
      refine Held.op_build 13 (some 46) 23 25 1 (.slice none 0 0) 24 [.slice (some ⟨g1, 0, none⟩) q (q + 3)] rfl rfl rfl rfl Tryd.underlying23 info_bytes (by simp [Act.eval]) (by simp [Value.cells]) (by simp [Value.oneCell']) rfl (by omega) (by omega) ?_
      intro p13 w4 v13 b4
      have c0_4 := c0_3.trans (b4.mono c0_3.size)
      have c4_4 := Below.refl w4.heap.size w4
      refine ⟨c0_4, ?_⟩
      simp only [Act.put, List.setIfInBounds_toArray, List.set_cons_zero, List.set_cons_succ]
      refine Held.one 14 (by kernel_rfl) ?_
      refine Held.op_call 14 (some 47) 11 #[.agg (arr .u8 key), .slice (some ⟨p13, 0, none⟩) 1 1] rfl rfl rfl rfl (enters_of Tryd.func11 (by kernel_rfl) rfl) (by simp [Act.eval])
        (tag_1 key (some ⟨p13, 0, none⟩) (some ⟨g1, 0, none⟩) q (q + 3) all _ HK.out hkb (v13.below c4_4 |>.more c4_4.size) ((ig.below c0_4).more c0_4.size) (by omega) (by unfold maxLen; omega) (by omega) HAB.out (hT.below (b.trans (c0_4.mono b.size)) hT.lt)) ?_
      rintro e w5 ⟨rfl, b5⟩
      have c0_5 := c0_4.trans (b5.mono c0_4.size)
      have c4_5 := b5
      refine ⟨_, rfl, c0_5, ?_⟩
      simp only [Act.put, List.setIfInBounds_toArray, List.set_cons_zero, List.set_cons_succ]
      refine Held.one 17 (by kernel_rfl) ?_
      refine Held.op_call 17 (some 50) 12 #[.agg (arr .u8 key), .slice A3 q c3] rfl rfl rfl rfl (enters_of Tryd.func12 (by kernel_rfl) rfl) (by simp [Act.eval])
        (rtag_any key wz.heap.size A3 q c3 all _ HK.out hkb (i3.below c0_5) HAB.out c0_5.size (by omega)) ?_
      rintro e w6 ⟨rfl, b6⟩
      have c0_6 := c0_5.trans (b6.mono c0_5.size)
      have c4_6 := c4_5.trans (b6.mono c4_5.size)
      refine ⟨_, rfl, c0_6, ?_⟩
      simp only [Act.put, List.setIfInBounds_toArray, List.set_cons_zero, List.set_cons_succ]
      refine Held.take (v := .bool true) 18 (some 51) rfl rfl (by kernel_rfl) (by kernel_rfl) (by kernel_rfl) (fun _ _ _ h => h) rfl (Held.y_eql rfl rfl rfl (by kernel_rfl) Tryd.underlying27 Tryd.underlying5 (by kernel_rfl) HPL.out) c0_6 ?_
      simp only [Act.put, List.setIfInBounds_toArray, List.set_cons_zero, List.set_cons_succ]
      refine Held.take (v := .bool true) 19 (some 52) rfl rfl (by kernel_rfl) (by kernel_rfl) (by kernel_rfl) (fun _ _ _ h => h) rfl (Held.y_pick rfl rfl rfl) c0_6 ?_
      simp only [Act.put, List.setIfInBounds_toArray, List.set_cons_zero, List.set_cons_succ]
      refine Held.take (v := .bool true) 20 (some 53) rfl rfl (by kernel_rfl) (by kernel_rfl) (by kernel_rfl) (fun _ _ _ h => h) rfl (Held.y_move rfl rfl) c0_6 ?_
      simp only [Act.put, List.setIfInBounds_toArray, List.set_cons_zero, List.set_cons_succ]
      refine Held.take (v := .agg (arr .u8 key)) 21 (some 54) rfl rfl (by kernel_rfl) (by kernel_rfl) (by kernel_rfl) (fun _ _ _ h => h) rfl (Held.y_load_Row (zs := key) rfl rfl Tryd.underlying22 info_key HK.out (fun W hW => Row.below kz hW kz.lt)) c0_6 ?_
      simp only [Act.put, List.setIfInBounds_toArray, List.set_cons_zero, List.set_cons_succ]
      refine Held.take (v := .agg (arr .u8 key)) 23 (some 56) rfl rfl (by kernel_rfl) (by kernel_rfl) (by kernel_rfl) (fun _ _ _ h => h) rfl (Held.y_load_Row (zs := key) rfl rfl Tryd.underlying22 info_key HK.out (fun W hW => Row.below kz hW kz.lt)) c0_6 ?_
      simp only [Act.put, List.setIfInBounds_toArray, List.set_cons_zero, List.set_cons_succ]
      refine Held.one 22 (by kernel_rfl) ?_
      refine Held.op_call 22 (some 55) 13 #[.agg (arr .u8 key)] rfl rfl rfl rfl (enters_of Tryd.func13 (by kernel_rfl) rfl) (by simp [Act.eval])
        (clamp_any key _ HK.out hkb (hT.below (b.trans (c0_6.mono b.size)) hT.lt)) ?_
      rintro e w7 ⟨rfl, b7⟩
      have c0_7 := c0_6.trans (b7.mono c0_6.size)
      have c4_7 := c4_6.trans (b7.mono c4_6.size)
      refine ⟨_, rfl, c0_7, ?_⟩
      simp only [Act.put, List.setIfInBounds_toArray, List.set_cons_zero, List.set_cons_succ]
      refine Held.one 24 (by kernel_rfl) ?_
      refine Held.op_call 24 (some 57) 14 #[.agg (arr .u8 key)] rfl rfl rfl rfl (enters_of Tryd.func14 (by kernel_rfl) rfl) (by simp [Act.eval])
        (rclamp_any key _ HK.out hkb) ?_
      rintro e w8 ⟨rfl, b8⟩
      have c0_8 := c0_7.trans (b8.mono c0_7.size)
      have c4_8 := c4_7.trans (b8.mono c4_7.size)
      refine ⟨_, rfl, c0_8, ?_⟩
      simp only [Act.put, List.setIfInBounds_toArray, List.set_cons_zero, List.set_cons_succ]
      refine Held.take (v := .bool true) 25 (some 58) rfl rfl (by kernel_rfl) (by kernel_rfl) (by kernel_rfl) (fun _ _ _ h => h) rfl (Held.y_eql rfl rfl rfl (by kernel_rfl) Tryd.underlying27 Tryd.underlying5 (by kernel_rfl) HCL.out) c0_8 ?_
      simp only [Act.put, List.setIfInBounds_toArray, List.set_cons_zero, List.set_cons_succ]
      refine Held.take (v := .bool true) 26 (some 59) rfl rfl (by kernel_rfl) (by kernel_rfl) (by kernel_rfl) (fun _ _ _ h => h) rfl (Held.y_pick rfl rfl rfl) c0_8 ?_
      simp only [Act.put, List.setIfInBounds_toArray, List.set_cons_zero, List.set_cons_succ]
      refine Held.take (v := .bool true) 27 (some 60) rfl rfl (by kernel_rfl) (by kernel_rfl) (by kernel_rfl) (fun _ _ _ h => h) rfl (Held.y_move rfl rfl) c0_8 ?_
      simp only [Act.put, List.setIfInBounds_toArray, List.set_cons_zero, List.set_cons_succ]
      refine Held.take (v := .slice (some ⟨g1, 0, none⟩) q (q + 3)) 28 (some 61) rfl rfl (by kernel_rfl) (by kernel_rfl) (by kernel_rfl) (fun _ _ _ h => h) rfl (Held.y_move rfl rfl) c0_8 ?_
      simp only [Act.put, List.setIfInBounds_toArray, List.set_cons_zero, List.set_cons_succ]
      refine Held.take (v := .slice A3 q c3) 29 (some 62) rfl rfl (by kernel_rfl) (by kernel_rfl) (by kernel_rfl) (fun _ _ _ h => h) rfl (Held.y_move rfl rfl) c0_8 ?_
      simp only [Act.put, List.setIfInBounds_toArray, List.set_cons_zero, List.set_cons_succ]
      refine Held.one 30 (by kernel_rfl) ?_
      refine Held.op_call 30 (some 63) 15 #[.slice (some ⟨g1, 0, none⟩) q (q + 3), .slice A3 q c3, .int .u8 71] rfl rfl rfl rfl (enters_of Tryd.func15 (by kernel_rfl) rfl) (by simp [Act.eval])
        (kept_b wz.heap.size A3 q c3 g1 all 71 _ (i3.below c0_8) (by omega) (rz.below c0_8 rz.lt)) ?_
      rintro e w9 ⟨rfl, b9⟩
      have c0_9 := c0_8.trans (b9.mono c0_8.size)
      have c4_9 := c4_8.trans (b9.mono c4_8.size)
      refine ⟨_, rfl, c0_9, ?_⟩
      simp only [Act.put, List.setIfInBounds_toArray, List.set_cons_zero, List.set_cons_succ]
      refine Held.take (v := .bool true) 31 (some 64) rfl rfl (by kernel_rfl) (by kernel_rfl) (by kernel_rfl) (fun _ _ _ h => h) rfl (Held.y_pick rfl rfl rfl) c0_9 ?_
      simp only [Act.put, List.setIfInBounds_toArray, List.set_cons_zero, List.set_cons_succ]
      refine Held.take (v := .bool true) 32 (some 4) rfl rfl (by kernel_rfl) (by kernel_rfl) (by kernel_rfl) (fun _ _ _ h => h) rfl (Held.y_assign rfl rfl) c0_9 ?_
      simp only [Act.put, List.setIfInBounds_toArray, List.set_cons_zero, List.set_cons_succ]
      refine wpAnyH_done (by kernel_rfl) ?_ _
      go_wp2_with fail
      go_ret
      exact ⟨rfl, b.trans (c0_9.mono b.size)⟩

theorem walk (z0 : List Int) (A1 : Option Addr) (m1 c1 : Nat) (vs1 : List Value) (xss1 : List (List Int)) (w : World) (zl0 : z0.length = 32) (zw0 : ∀ z ∈ z0, (Lit.int .u8 z).wf = true) (hv1 : Vals w w.heap.size A1 m1 vs1) (ht1 : Texts w w.heap.size vs1 xss1) (hL : laidMetH Tryd.prog laidList w) :
    Calls Tryd.prog 3 #[.agg (Mem.arr .u8 z0), .slice A1 m1 c1] w fun e w' => e = .returned (.bool true) ∧ Below w.heap.size w w' := by
  exact start z0 A1 m1 c1 _ _ w hv1 ht1 zl0 (bs_of_wf zw0) (poly_of_laid hL)

set_option maxRecDepth 100000 in
theorem door_met (os : Os) (args : Array Value) : laidMetH Tryd.prog laidList ((World.doorLaid Tryd.prog 400 os).forCall (fun _ _ => 0) ⟨#[], args, []⟩).memory :=
  laidMetH_of_parts3 (fuel := 8) (laidMet_of_run' 8 (by kernel_rfl) (by kernel_rfl)) (by kernel_rfl) (by kernel_rfl)

set_option maxRecDepth 100000 in
theorem lifted (os : Os) (started : os.Started) (H : Type) (enc : TypeId × Value → H) :
    ReturnsInHanded {} Tryd.checked os 3 .any (fun w args => (Rows.polyTagsSpec.pre enc Tryd.prog Tryd.f3 [] false w args ∧ laidMetH Tryd.prog laidList w) ∧ sizedMet enc Tryd.prog Tryd.f3 (OpenSpec.ofChange Rows.polyTagsSpec) false w args)
      (Rows.polyTagsSpec.post enc Tryd.prog Tryd.f3 false true false false) := by
  refine returnsInHanded_of_change_and (C := Tryd.checked) (X := fun w _ => laidMetH Tryd.prog laidList w) (fun _ _ _ hh h => h.of_heap hh) own started (by kernel_rfl) Tryd.func3
    (ChangeSpec.witness_shaped (enc := enc) (C := Tryd.checked) (os := os) (X := fun w _ => laidMetH Tryd.prog laidList w) false (World.doorLaid Tryd.prog 400 os) #[.agg (Array.replicate 32 (.int .u8 0)), .slice none 0 0] 8 rfl (World.shaped_of_RefB (by kernel_rfl) (by kernel_rfl)) (by kernel_rfl) (by kernel_rfl) (by kernel_rfl) (door_met os _)) ?_
  intro W base args ds gs before hval0 hW _ _ hL _
  have hval : ∀ (j : Nat) t v, Tryd.f3.params[j]? = some t → args[j]? = some v → Value.okWide Tryd.prog W .any base t v := hval0
  have hW' := hW
  obtain ⟨p, q, hA0, hV, rfl, hfz, hnd⟩ := hW
  have hA : DataW.TrodAll enc Tryd.prog W 0 (fun _ => true) true Tryd.f3.params.toList args.toList ds p := hA0
  rw [Tryd.params3] at hA hval
  obtain ⟨v0, vs0, d0, ds0, p0, q0, hargs, rfl, rfl, h0, r0⟩ := trodAll_cons hA
  obtain ⟨v1, vs1, d1, ds1, p1, q1, rfl, rfl, rfl, h1, r1⟩ := trodAll_cons r0
  obtain ⟨rfl, rfl, rfl⟩ := trodAll_nil r1
  obtain rfl : args = #[v0, v1] := by cases args; simp_all
  obtain ⟨rfl, rfl⟩ := trodVars_none hV
  have k0 := h0
  have lt0 : ∀ x ∈ p0, x.block < W.heap.size := by obtain ⟨m, hm⟩ := k0; exact DataW.trod_lt m _ _ _ hm
  obtain ⟨z0, rfl, zl0, zw0⟩ := Mem.open_arr Tryd.underlying22 Tryd.underlying5 (by kernel_rfl) (by kernel_rfl) (hval 0 22 v0 rfl rfl) h0
  obtain ⟨A1, m1, c1, rfl⟩ := okWide_slice Tryd.underlying23 (hval 1 23 v1 rfl rfl)
  have k1 := h1
  have lt1 : ∀ x ∈ p1, x.block < W.heap.size := by obtain ⟨m, hm⟩ := k1; exact DataW.trod_lt m _ _ _ hm
  obtain ⟨vs1, xss1, hv1, ht1⟩ := open_texts Tryd.underlying23 Tryd.underlying25 Tryd.underlying5 (by kernel_rfl) (by kernel_rfl) h1
  clear hA0 hval0
  refine (walk z0 A1 m1 c1 vs1 xss1 W zl0 zw0 hv1 ht1 hL).mono fun e W' ⟨he, bel⟩ => ?_
  subst he
  exact ⟨_, rfl, _, _, _, [], _, [], hW', trodAll_mk1 (shut_bool Tryd.underlying4 _), (trodAll_cons_mk (Below.trod laidOut (by kernel_rfl) (of_decide_eq_true (by kernel_rfl)) k0 bel lt0) (trodAll_cons_mk (Below.trod laidOut (by kernel_rfl) (of_decide_eq_true (by kernel_rfl)) k1 bel lt1) trodAll_mk0)), rfl, bel.frame _, fun h => by cases h⟩

theorem over : Rows.polyTagsRow.holds Tryd.pinned (OpenSpec.ofChange Rows.polyTagsSpec) :=
  OpenClaim.holds_of_wide 3 Tryd.f3 rfl rfl rfl rfl rfl rfl rfl ⟨rfl, rfl, rfl, rfl, rfl⟩ rfl rfl rfl rfl rfl (by kernel_rfl) Tryd.func3 (by kernel_rfl)
    (of_decide_eq_true (by kernel_rfl)) (by unfold Func.isWrapper; first | (rw [if_pos (by decide +kernel)]; kernel_rfl) | (rw [if_neg (by decide +kernel)]; exact ⟨rfl, rfl⟩))
    (fun os started H enc _ => lifted os started H enc)

/-- the statement -/
theorem proved : Rows.PolyTagsCardSaid :=
  Claim7.holds_tied_plain_at .later [] [.data] true (true, "9d09f719a415488d530ca78bf13ef0359f19f2341467271f1f7cb433901f189e") false
    over (fun _ h => by cases h) (by kernel_rfl) (fun _ h => by cases h) polyTags_row_tie rfl ⟨rfl, rfl⟩ (by kernel_rfl) rfl
    (fun f fn hf hfn => by
      obtain rfl : f = 3 := Option.some.inj ((show Tryd.prog.funcNamed "domino/dominolaw06.PolyTags" = some 3 by kernel_rfl).symm.trans hf) |>.symm
      obtain rfl : fn = Tryd.f3 := (Option.some.inj (Tryd.func3.symm.trans hfn)).symm
      exact ⟨by kernel_rfl, fun j t ht => by
        rw [Tryd.params3] at ht
        have hm : t ∈ [22, 23] := by simpa using Array.mem_of_getElem? ht
        have hall : ([22, 23].all fun u => !Tryd.prog.wantsStandIn u) = true := by kernel_rfl
        exact (show Tryd.prog.wantsStandIn t = false by simpa using List.all_eq_true.1 hall t hm)⟩)
    (by kernel_rfl)
#print axioms proved
end Go.Proofs.YtebkicikpeicmaaDoor.polyTags
