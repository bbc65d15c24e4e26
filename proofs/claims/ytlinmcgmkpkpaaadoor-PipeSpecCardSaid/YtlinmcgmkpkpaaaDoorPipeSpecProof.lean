/-
  The law PipeSpec of package dominolaw16 returns true for every job: what comes out of it is what the document has it tell.
-/
import Derived.Test.YtlinmcgmkpkpaaaDoorRows
import Derived.Test.YtlinmcgmkpkpaaaDoorCards
import Derived.Test.YtlinmcgmkpkpaaaDoorTie
import Derived.SevenTiedAt
import Derived.WalkKit
import Derived.ProofKit
import Derived.OpenShut
import Derived.ShutString
import Derived.ChangeOld
import Derived.Below
import Derived.LaidMore
import Derived.Stop.Joined
import Derived.Test.YtlinmcgmkpkpaaaDoorB22
import Derived.Test.YtlinmcgmkpkpaaaDoorB25
import Derived.Test.YtlinmcgmkpkpaaaDoorB26
namespace Go.Proofs.YtlinmcgmkpkpaaaDoor.pipeSpec
open Go.ChangeShapes Go.WideShapes Go.ChangeAt Go.RowKit
open Go.ChangeMaps (open_string shut_string)
open Go.Shelf Go.Proofs.YtlinmcgmkpkpaaaDoor Mem Held Ct Rc Rs Sl Vm Sp Mg Go.Proofs.YtlinmcgmkpkpaaaDoor.Pi
theorem own : ownKnob Tryd.prog.godebug = none := by kernel_rfl
theorem laidOut : laidOutB Tryd.prog = true := by kernel_rfl
def laidList : List (String × DataW Unit) := [("math/bits.deBruijn32tab", Rows.laid_math_bits_deBruijn32tab), ("math/bits.deBruijn64tab", Rows.laid_math_bits_deBruijn64tab)]
attribute [local irreducible] wpList wpListIn Calls
attribute [local go_sem] Oper.semAt_some
theorem part_len {l : List O} {k : Int} (h : mayP l k = true) : l.length ≤ 40 := by
  unfold mayP at h
  rw [Bool.and_eq_true, decide_eq_true_eq] at h
  exact h.1
set_option maxRecDepth 100000 in
set_option maxHeartbeats 16000000 in
theorem start (Z : Nat → Value) (K : Int) (A1 : Option Addr) (n1 c1 : Nat) (x1 : List O) (A2 : Option Addr) (n2 c2 : Nat) (x2 : List O) (A3 : Option Addr) (n3 c3 : Nat) (x3 : List O) (pr pk pb pw : Int) (A : Option Addr) (n c : Nat) (ps : List (Int × Int)) (w : World) (hZ : Zok Z)
    (h1 : Lst kO w w.heap.size A1 n1 x1) (h2 : Lst kO w w.heap.size A2 n2 x2) (h3 : Lst kO w w.heap.size A3 n3 x3) (hp : Lst kP w w.heap.size A n ps) (hnc : n ≤ c) (hcm : c ≤ maxLen) (hT : Bi.TzT w) :
    Calls Tryd.prog 3 #[.agg (jb Z K A1 n1 c1 A2 n2 c2 A3 n3 c3 pr pk pb pw A n c)] w fun e w' => e = .returned (.bool true) ∧ Below w.heap.size w w' := by
  go_enter Tryd.func3, Tryd.ntmps3
  go_wp2_with (first
    | (refine on 1 ?_; refine wpList_box_blk (w := w) rfl 31 _ rfl (jb Z K A1 n1 c1 A2 n2 c2 A3 n3 c3 pr pk pb pw A n c) rfl ?_; intro w1 q1 g1 z1)
    | (refine on 7 ?_; refine wpList_load_blk (w := w1) rfl 31 _ rfl w.heap.size 42 rfl 31 _ q1 _ Tryd.underlying31 rfl size_job rfl ?_))
  have b1 : Below w.heap.size w w1 := (Below.refl _ w).grown g1 (Nat.le_refl _) (by simp)
  have s1 : w1.heap.size = w.heap.size + 1 := z1.out
  refine (right_any_job w.heap.size Z K A1 n1 c1 x1 A2 n2 c2 x2 A3 n3 c3 x3 pr pk pb pw A n c ps w1 hZ (h1.below b1) (h2.below b1) (h3.below b1) (hp.below b1) hnc hcm (by omega)).mono ?_
  rintro e w2 ⟨B1, B2, B3, m1, d1, m2, d2, m3, d3, y1, y2, y3, r, k, b, wk, A', c', qs, rfl, l1, l2, l3, lp, ⟨f1, f2, f3, fp, hrc, hcm2⟩, hC, hR, hr6, hk2, hb3, hw3, b2'⟩
  have q1 := q1.after b2'
  have b2' := b1.trans (b2'.mono (by omega))
  have s2 := b2'.size
  have hl2 := q1.lt
  have hTw := hT.lt
  clear h1 h2 h3 hp
  go_wp2_with (first
    | (refine onS 1 ?_; refine wpList_store_blk (w := w2) rfl 31 _ _ rfl w.heap.size 42 rfl 31 (jb Z K A1 n1 c1 A2 n2 c2 A3 n3 c3 pr pk pb pw A n c) (jb Z (k : Int) B1 m1 d1 B2 m2 d2 B3 m3 d3 (r : Int) (k : Int) (b : Int) (wk : Int) A' r c') rfl q1 size_job rfl rfl (jb_one hZ ..) ?_; intro w3 q1 g3 _; have b3 := b2'.grown g3 s2 (fun r e => by cases e; exact Nat.le_refl _); have s3 := g3.size; have lp := (lst_off lp (Nat.le_refl _) g3 (fun h0 b off e => by have := fp h0 b off e; omega)).more s3; have l1 := (lst_off l1 (Nat.le_refl _) g3 (fun h0 b off e => by have := f1 h0 b off e; omega)).more s3; have l2 := (lst_off l2 (Nat.le_refl _) g3 (fun h0 b off e => by have := f2 h0 b off e; omega)).more s3; have l3 := (lst_off l3 (Nat.le_refl _) g3 (fun h0 b off e => by have := f3 h0 b off e; omega)).more s3; have hr33 : w3.rangeAt w.heap.size 33 [.int .i64 (k : Int), .slice B1 m1 d1, .slice B2 m2 d2, .slice B3 m3 d3] := blk_range q1 (by rfl); have hr37 : w3.rangeAt w.heap.size 37 [.int .i64 (r : Int), .int .i64 (k : Int), .int .i64 (b : Int), .int .i64 (wk : Int)] := blk_range q1 (by rfl); have h41 : w3.cell? ⟨w.heap.size, 41, none⟩ = some (.slice A' r c') := q1.cell (i := 41) rfl; have hq3 : w.heap.size < w3.heap.size := q1.lt)
    | (refine on 11 ?_; refine wpList_run (w := w3) rfl (v := .agg #[.int .i64 (k : Int), .slice B1 m1 d1, .slice B2 m2 d2, .slice B3 m3 d3]) (y_load_range (S := fun W => W = w3) (n := 4) (cs := [.int .i64 (k : Int), .slice B1 m1 d1, .slice B2 m2 d2, .slice B3 m3 d3]) rfl rfl Tryd.underlying26 rfl info_prog rfl (fun W hW => by rw [hW]; exact hr33) _ rfl) ?_)
    | (refine on 13 ?_; refine wpList_run (w := w3) rfl (v := .agg #[.int .i64 (r : Int), .int .i64 (k : Int), .int .i64 (b : Int), .int .i64 (wk : Int)]) (y_load_range (S := fun W => W = w3) (n := 4) (cs := [.int .i64 (r : Int), .int .i64 (k : Int), .int .i64 (b : Int), .int .i64 (wk : Int)]) rfl rfl Tryd.underlying28 rfl size_params rfl (fun W hW => by rw [hW]; exact hr37) _ rfl) ?_))
  refine (run_told2 w3.heap.size k b r (wk : Int) B1 B2 B3 A' m1 d1 m2 d2 m3 d3 c' y1 y2 y3 qs w3 l1 l2 l3 lp (Nat.le_refl _) hC hR (hT.below b3 hTw)).mono ?_
  rintro e w4 ⟨v1, X1, rfl, o1, p1, t1, x1l, b4⟩
  have q1 := q1.after b4
  have l1 := (l1.below b4).more b4.size
  have l2 := (l2.below b4).more b4.size
  have l3 := (l3.below b4).more b4.size
  have lp := (lp.below b4).more b4.size
  have b4 := b3.trans (b4.mono (by omega))
  have hr33 : w4.rangeAt w.heap.size 33 [.int .i64 (k : Int), .slice B1 m1 d1, .slice B2 m2 d2, .slice B3 m3 d3] := blk_range q1 (by rfl)
  have hr37 : w4.rangeAt w.heap.size 37 [.int .i64 (r : Int), .int .i64 (k : Int), .int .i64 (b : Int), .int .i64 (wk : Int)] := blk_range q1 (by rfl)
  have h41 : w4.cell? ⟨w.heap.size, 41, none⟩ = some (.slice A' r c') := q1.cell (i := 41) rfl
  have s4 : w.heap.size < w4.heap.size := q1.lt
  obtain ⟨_, _, e1, e2, e3⟩ := checkB_says hC
  have k1 : m1 ≤ 1048576 := by have := part_len e1; have := l1.1; omega
  have k2 : m2 ≤ 1048576 := by have := part_len e2; have := l2.1; omega
  have k3 : m3 ≤ 1048576 := by have := part_len e3; have := l3.1; omega
  clear e1 e2 e3 g1 z1 s1 s2 b3 b2'
  go_wp2_with (first
    | (refine on 21 ?_; refine wpList_run (w := w4) rfl (v := .agg #[.int .i64 (k : Int), .slice B1 m1 d1, .slice B2 m2 d2, .slice B3 m3 d3]) (y_load_range (S := fun W => W = w4) (n := 4) (cs := [.int .i64 (k : Int), .slice B1 m1 d1, .slice B2 m2 d2, .slice B3 m3 d3]) rfl rfl Tryd.underlying26 rfl info_prog rfl (fun W hW => by rw [hW]; exact hr33) _ rfl) ?_)
    | (refine on 23 ?_; refine wpList_run (w := w4) rfl (v := .agg #[.int .i64 (r : Int), .int .i64 (k : Int), .int .i64 (b : Int), .int .i64 (wk : Int)]) (y_load_range (S := fun W => W = w4) (n := 4) (cs := [.int .i64 (r : Int), .int .i64 (k : Int), .int .i64 (b : Int), .int .i64 (wk : Int)]) rfl rfl Tryd.underlying28 rfl size_params rfl (fun W hW => by rw [hW]; exact hr37) _ rfl) ?_))
  refine (rspec_ok w4.heap.size k r (b : Int) (wk : Int) B1 B2 B3 A' m1 d1 m2 d2 m3 d3 c' y1 y2 y3 qs w4 l1 l2 l3 lp (Nat.le_refl _) k1 k2 k3 hC hR).mono ?_
  rintro e w5 ⟨v2, X2, rfl, o2, p2, t2, x2l, b5⟩
  obtain rfl := told_unique t1 t2
  have o1 := OwnL.below o1 b5
  have b5 := b4.trans (b5.mono (by omega))
  have s5 := b5.size
  clear q1 l1 l2 l3 lp hr33 h41 hr37 t1 t2 p2
  obtain ⟨A8, n8, c8, rfl, hn8, _⟩ := OwnL.form2 o1
  obtain ⟨A9, n9, c9, rfl, hn9, _⟩ := OwnL.form2 o2
  have k1 := OwnL.lst o1 p1
  have k2 := OwnL.lst o2 p1
  have hXl : (X1.map (fun p => (p.1, finishV (k : Int) y1 y2 y3 p.1 p.2))).length = X1.length := List.length_map _
  generalize X1.map (fun p => (p.1, finishV (k : Int) y1 y2 y3 p.1 p.2)) = L at *
  have hl8 : n8 ≤ 1073741824 := by rw [← hn8.out, hXl]; omega
  have hl9 : n9 ≤ 1073741824 := by rw [← hn9.out, hXl]; omega
  clear o1 o2
  go_wp2_with fail
  refine (awake16_any w5).mono ?_
  rintro e u1 ⟨rfl, bu⟩
  have k1 := (k1.below bu).more bu.size
  have k2 := (k2.below bu).more bu.size
  have bu := b5.trans (bu.mono s5)
  have su := bu.size
  go_wp2_with fail
  refine (Pip.plain_any u1.heap.size u1.heap.size A8 A9 n8 n9 c8 c9 L L u1 k1 k2 (Nat.le_refl _) (Nat.le_refl _) hl8 hl9).mono ?_
  rintro e u2 ⟨rfl, bv⟩
  have bv := bu.trans (bv.mono su)
  rw [show decide (L = L) = true by simp]
  go_wp2_with fail
  go_ret
  exact ⟨rfl, bv⟩
theorem walk (Z0 : Nat → Value) (K0 : Int) (Aa0 : Option Addr) (na0 ca0 : Nat) (xa0 : List Vm.O) (Ab0 : Option Addr) (nb0 cb0 : Nat) (xb0 : List Vm.O) (Ac0 : Option Addr) (nc0 cc0 : Nat) (xc0 : List Vm.O) (pr0 pk0 pb0 pw0 : Int) (A0 : Option Addr) (n0 c0 : Nat) (ps0 : List (Int × Int)) (w : World) (hZ0 : Pi.Zok Z0) (ha0 : Sl.Lst Vm.kO w w.heap.size Aa0 na0 xa0) (hb0 : Sl.Lst Vm.kO w w.heap.size Ab0 nb0 xb0) (hc0 : Sl.Lst Vm.kO w w.heap.size Ac0 nc0 xc0) (hp0 : Sl.Lst Sp.kP w w.heap.size A0 n0 ps0) (hnc0 : n0 ≤ c0) (hcm0 : c0 ≤ maxLen) (hL : laidMetH Tryd.prog laidList w) :
    Calls Tryd.prog 3 #[.agg (Pi.jb Z0 K0 Aa0 na0 ca0 Ab0 nb0 cb0 Ac0 nc0 cc0 pr0 pk0 pb0 pw0 A0 n0 c0)] w fun e w' => e = .returned (.bool true) ∧ Below w.heap.size w w' := by
  exact start Z0 K0 Aa0 na0 ca0 xa0 Ab0 nb0 cb0 xb0 Ac0 nc0 cc0 xc0 pr0 pk0 pb0 pw0 A0 n0 c0 ps0 w hZ0 ha0 hb0 hc0 hp0 hnc0 hcm0 (Bi.bits_of_laid hL)
set_option maxRecDepth 100000 in
theorem door_met (os : Os) (args : Array Value) : laidMetH Tryd.prog laidList ((World.doorLaid Tryd.prog 400 os).forCall (fun _ _ => 0) ⟨#[], args, []⟩).memory :=
  laidMetH_of_parts3 (fuel := 8) (laidMet_of_run' 8 (by kernel_rfl) (by kernel_rfl)) (by kernel_rfl) (by kernel_rfl)
set_option maxRecDepth 100000 in
theorem lifted (os : Os) (started : os.Started) (H : Type) (enc : TypeId × Value → H) :
    ReturnsInHanded {} Tryd.checked os 3 .any (fun w args => (Rows.pipeSpecSpec.pre enc Tryd.prog Tryd.f3 [] false w args ∧ laidMetH Tryd.prog laidList w) ∧ sizedMet enc Tryd.prog Tryd.f3 (OpenSpec.ofChange Rows.pipeSpecSpec) false w args)
      (Rows.pipeSpecSpec.post enc Tryd.prog Tryd.f3 false true false false) := by
  refine returnsInHanded_of_change_and (C := Tryd.checked) (X := fun w _ => laidMetH Tryd.prog laidList w) (fun _ _ _ hh h => h.of_heap hh) own started (by kernel_rfl) Tryd.func3
    (ChangeSpec.witness_shaped (enc := enc) (C := Tryd.checked) (os := os) (X := fun w _ => laidMetH Tryd.prog laidList w) false (World.doorLaid Tryd.prog 400 os) #[.agg #[.int .u8 0, .int .u8 0, .int .u8 0, .int .u8 0, .int .u8 0, .int .u8 0, .int .u8 0, .int .u8 0, .int .u8 0, .int .u8 0, .int .u8 0, .int .u8 0, .int .u8 0, .int .u8 0, .int .u8 0, .int .u8 0, .int .u8 0, .int .u8 0, .int .u8 0, .int .u8 0, .int .u8 0, .int .u8 0, .int .u8 0, .int .u8 0, .int .u8 0, .int .u8 0, .int .u8 0, .int .u8 0, .int .u8 0, .int .u8 0, .int .u8 0, .int .u8 0, .int .u64 0, .int .i64 0, .slice none 0 0, .slice none 0 0, .slice none 0 0, .int .i64 0, .int .i64 0, .int .i64 0, .int .i64 0, .slice none 0 0]] 8 rfl (World.shaped_of_RefB (by kernel_rfl) (by kernel_rfl)) (by kernel_rfl) (by kernel_rfl) (by kernel_rfl) (door_met os _)) ?_
  intro W base args ds gs before hval0 hW _ _ hL _
  have hval : ∀ (j : Nat) t v, Tryd.f3.params[j]? = some t → args[j]? = some v → Value.okWide Tryd.prog W .any base t v := hval0
  have hW' := hW
  obtain ⟨p, q, hA0, hV, rfl, hfz, hnd⟩ := hW
  have hA : DataW.TrodAll enc Tryd.prog W 0 (fun _ => true) true Tryd.f3.params.toList args.toList ds p := hA0
  rw [Tryd.params3] at hA hval
  obtain ⟨v0, vs0, d0, ds0, p0, q0, hargs, rfl, rfl, h0, r0⟩ := trodAll_cons hA
  obtain ⟨rfl, rfl, rfl⟩ := trodAll_nil r0
  obtain rfl : args = #[v0] := by cases args; simp_all
  obtain ⟨rfl, rfl⟩ := trodVars_none hV
  have kk0 := h0
  have lt0 : ∀ x ∈ p0, x.block < W.heap.size := by obtain ⟨m, hm⟩ := kk0; exact DataW.trod_lt m _ _ _ hm
  obtain ⟨Z0, K0, Aa0, na0, ca0, xa0, Ab0, nb0, cb0, xb0, Ac0, nc0, cc0, xc0, pr0, pk0, pb0, pw0, A0, n0, c0, ps0, rfl, hZ0, wK0, ha0, hb0, hc0, wp0, hp0⟩ := Pi.open_job (hval 0 31 v0 rfl rfl) h0
  clear hA0 hval0
  refine (walk Z0 K0 Aa0 na0 ca0 xa0 Ab0 nb0 cb0 xb0 Ac0 nc0 cc0 xc0 pr0 pk0 pb0 pw0 A0 n0 c0 ps0 W hZ0 ha0.1 hb0.1 hc0.1 hp0.1 hp0.2.1 hp0.2.2 hL).mono fun e W' ⟨he, bel⟩ => ?_
  subst he
  exact ⟨_, rfl, _, _, _, [], _, [], hW', trodAll_mk1 (shut_bool Tryd.underlying4 _), (trodAll_cons_mk (Below.trod laidOut (by kernel_rfl) (of_decide_eq_true (by kernel_rfl)) kk0 bel lt0) trodAll_mk0), rfl, bel.frame _, fun h => by cases h⟩
theorem over : Rows.pipeSpecRow.holds Tryd.pinned (OpenSpec.ofChange Rows.pipeSpecSpec) :=
  OpenClaim.holds_of_wide 3 Tryd.f3 rfl rfl rfl rfl rfl rfl rfl ⟨rfl, rfl, rfl, rfl, rfl⟩ rfl rfl rfl rfl rfl (by kernel_rfl) Tryd.func3 (by kernel_rfl)
    (of_decide_eq_true (by kernel_rfl)) (by unfold Func.isWrapper; first | (rw [if_pos (by decide +kernel)]; kernel_rfl) | (rw [if_neg (by decide +kernel)]; exact ⟨rfl, rfl⟩))
    (fun os started H enc _ => lifted os started H enc)
theorem proved : Rows.PipeSpecCardSaid :=
  Claim7.holds_tied_plain_at .later [] [.data, .data] true (true, "a149d18c0653b1648f16848b2da2c696ebc66272bb5a5a3ee711bd8e17f0b6c7") false
    over (fun _ h => by cases h) (by kernel_rfl) (fun _ h => by cases h) pipeSpec_row_tie rfl ⟨rfl, rfl⟩ (by kernel_rfl) rfl
    (fun f fn hf hfn => by
      obtain rfl : f = 3 := Option.some.inj ((show Tryd.prog.funcNamed "domino/dominolaw16.PipeSpec" = some 3 by kernel_rfl).symm.trans hf) |>.symm
      obtain rfl : fn = Tryd.f3 := (Option.some.inj (Tryd.func3.symm.trans hfn)).symm
      exact ⟨by kernel_rfl, fun j t ht => by
        rw [Tryd.params3] at ht
        have hm : t ∈ [31] := by simpa using Array.mem_of_getElem? ht
        have hall : ([31].all fun u => !Tryd.prog.wantsStandIn u) = true := by kernel_rfl
        exact (show Tryd.prog.wantsStandIn t = false by simpa using List.all_eq_true.1 hall t hm)⟩)
    (by kernel_rfl)
#print axioms proved
end Go.Proofs.YtlinmcgmkpkpaaaDoor.pipeSpec
