/-
  The law ChachaXors of package dominolaw05 returns true for every key, nonce, counter and bytes: any bytes, turned, are the document's own; what is handed in stays, and nobody writes into what is told. The table of package chacha holds what the program's text lays.
-/
import Derived.Test.YtejgnjnmlojdpaaDoorRows
import Derived.Test.YtejgnjnmlojdpaaDoorCards
import Derived.Test.YtejgnjnmlojdpaaDoorTie
import Derived.SevenTiedAt
import Derived.WalkKit
import Derived.ProofKit
import Derived.OpenShut
import Derived.ShutString
import Derived.ChangeOld
import Derived.Below
import Derived.LaidMore
import Derived.Stop.Joined
import Derived.Test.YtejgnjnmlojdpaaDoorCh9
import Derived.Test.YtejgnjnmlojdpaaDoorCh8
import Derived.Test.YtejgnjnmlojdpaaDoorArrP
namespace Go.Proofs.YtejgnjnmlojdpaaDoor.chachaXors
open Go.ChangeShapes Go.WideShapes Go.ChangeAt Go.RowKit
open Go.ChangeMaps (open_string shut_string)
open Go.Shelf Go.Proofs.YtejgnjnmlojdpaaDoor.Mem Go.Proofs.YtejgnjnmlojdpaaDoor.Help Go.Proofs.YtejgnjnmlojdpaaDoor.Sum Go.Proofs.YtejgnjnmlojdpaaDoor.Cc Go.Proofs.YtejgnjnmlojdpaaDoor.Sha Go.Proofs.YtejgnjnmlojdpaaDoor.Cha Go.Proofs.YtejgnjnmlojdpaaDoor
set_option linter.unusedVariables false

theorem own : ownKnob Tryd.prog.godebug = none := by kernel_rfl
theorem laidOut : laidOutB Tryd.prog = true := by kernel_rfl

/-- what a slice that came in leads to -/
def IsRow (k : IntKind) (w : World) (a : Option Addr) (len cap : Nat) (zs : List Int) : Prop :=
  (a = none ∧ len = 0 ∧ cap = 0 ∧ zs = []) ∨
  ∃ x, a = some x ∧ len ≤ cap ∧ cap ≤ maxLen ∧ zs.length = cap ∧ (∀ i, i < zs.length → w.cell? (x.add i) = some (.int k (zs.getD i 0))) ∧ ∀ n ∈ zs, (Lit.int k n).wf = true

def laidList : List (String × DataW Unit) := [("domino/chacha.start", Rows.laid_domino_chacha_start)]

attribute [local irreducible] wpList Calls

set_option maxRecDepth 100000 in
set_option maxHeartbeats 4000000 in
theorem start (key nonce : List Int) (ctr : Int) (A : Option Addr) (m c : Nat) (bs : List Int) (w : World) (h : Ints w .u8 w.heap.size A m bs) (hmc : m ≤ c)
    (hk : key.length = 32) (hkb : Bs key) (hn : nonce.length = 12) (hnb : Bs nonce) (hc : R32 ctr) (hT : Tab w 0 sigma) :
    Calls Tryd.prog 4 #[.agg (arr .u8 key), .agg (arr .u8 nonce), .int .u32 ctr, .slice A m c] w fun e w' => e = .returned (.bool true) ∧ Below w.heap.size w w' := by
  have info_k : (Tryd.prog.info? 22).map (·.size) = some 32 := by kernel_rfl
  have info_n : (Tryd.prog.info? 24).map (·.size) = some 12 := by kernel_rfl
  have HK := Lib.hid hk
  have HN := Lib.hid hn
  have HB := Lib.hid h.1
  have HXL := Lib.hid (show (xors key nonce ctr bs).length = m by rw [xors_length, h.1])
  clear hk hn
  go_enter Tryd.func4, Tryd.ntmps4
  by_cases hbig : 2000 < m
  · have q : (2000 : Int) < (m : Int) := by omega
    go_wp2_with (first
      | (refine wpList_box_Row (w := w) rfl 22 _ rfl .u8 key rfl (bs_wf hkb) ?_; intro w1 r1 g1 z1)
      | (refine wpList_box_Row (w := w1) rfl 24 _ rfl .u8 nonce rfl (bs_wf hnb) ?_; intro w2 r2 g2 z2))
    refine (awake5_any _).mono ?_
    rintro e w' ⟨rfl, rfl⟩
    go_wp2_with fail
    go_ret
    exact ⟨rfl, ((Below.refl _ w).grown g1 (Nat.le_refl _) (by simp)).grown g2 g1.size (by simp)⟩
  · have q : ¬ (2000 : Int) < (m : Int) := by omega
    go_wp2_with (first
      | (refine wpList_box_Row (w := w) rfl 22 _ rfl .u8 key rfl (bs_wf hkb) ?_; intro w1 r1 g1 z1)
      | (refine wpList_box_Row (w := w1) rfl 24 _ rfl .u8 nonce rfl (bs_wf hnb) ?_; intro w2 r2 g2 z2))
    have b2 : Below w.heap.size w w2 := ((Below.refl _ w).grown g1 (Nat.le_refl _) (by simp)).grown g2 g1.size (by simp)
    obtain ⟨nn, hnn⟩ : ∃ x, w1.heap.size = x := ⟨_, rfl⟩
    have k2 := r1.grown g2 (by simp)
    rw [hnn] at r2 ⊢
    clear hnn r1 g1 g2 z1 z2
    refine (own_any _ A m c bs 71 w2 (h.below b2) b2.size (by omega) rfl).mono ?_
    rintro e w3 ⟨gi, rfl, hgi, ri, b3⟩
    have k3 := k2.below b3 k2.lt
    have n3 := r2.below b3 r2.lt
    have c3 := b2.trans (b3.mono b2.size)
    clear b3 k2 r2 b2
    go_wp2_with (first
      | (refine wpList_load_Row (w := w3) rfl 22 _ rfl w.heap.size rfl 22 .u8 _ k3 32 5 Tryd.underlying22 info_k HK.out ?_)
      | (refine wpList_load_Row (w := w3) rfl 24 _ rfl nn rfl 24 .u8 _ n3 12 5 Tryd.underlying24 info_n HN.out ?_))
    refine (xor_any key nonce ctr _ _ m (m + 3) bs w3 (row_ints3 ri HB.out) (Nat.le_refl _) (by omega) (by omega) HK.out hkb HN.out hnb hc (hT.below c3 hT.lt)).mono ?_
    rintro e w4 ⟨A4, c4, rfl, hc4, hc4', o4, b4⟩
    have k4 := k3.below b4 k3.lt
    have n4 := n3.below b4 n3.lt
    have i4 := ri.below b4 ri.lt
    have d4 := c3.trans (b4.mono c3.size)
    have li := ri.lt
    have s3 := c3.size
    clear b4 k3 n3 ri c3
    go_wp2_with fail
    refine (awake5_any _).mono ?_
    rintro e w' ⟨rfl, rfl⟩
    go_wp2_with (first
      | (refine wpList_load_RowG (w := w4) rfl 22 _ rfl w.heap.size rfl 22 .u8 _ k4 32 5 Tryd.underlying22 info_k HK.out ?_)
      | (refine wpList_load_RowG (w := w4) rfl 24 _ rfl nn rfl 24 .u8 _ n4 12 5 Tryd.underlying24 info_n HN.out ?_))
    refine (rxor_any key nonce ctr _ A m c bs w4 (h.below d4) d4.size (by omega) HK.out hkb HN.out hnb hc).mono ?_
    rintro e w5 ⟨A5, c5, rfl, hc5, o5, b5⟩
    have i5 := i4.below b5 i4.lt
    have o45 := o4.below b5
    have d5 := d4.trans (b5.mono d4.size)
    clear b5 k4 n4 i4 o4 d4
    go_wp2_with fail
    refine (bytes_any _ _ A4 A5 m m c4 c5 _ _ w5 (o45.ints HXL.out) (o5.ints HXL.out)).mono ?_
    rintro e w' ⟨rfl, rfl⟩
    clear o5
    go_wp2_with fail
    refine (spoil_any _ A4 m c4 _ w5 o45 HXL.out (by omega)).mono ?_
    rintro e w6 ⟨rfl, g6⟩
    have i6 := i5.grown g6 (fun e => by have := (o45.2.lt gi e.symm).1; omega)
    have d6 := d5.grown g6 d5.size (fun r e => by have := (o45.2.lt r e).1; have := d5.size; omega)
    clear o45 i5 d5 g6
    go_wp2_with fail
    refine (kept_any _ A m c gi bs 71 w6 (h.below d6) (by omega) i6).mono ?_
    rintro e w7 ⟨rfl, st7⟩
    go_wp2_with fail
    go_ret
    exact ⟨rfl, d6.trans (st7.below _)⟩

theorem walk (z0 : List Int) (z1 : List Int) (a2 : Int) (a3 : Option Addr) (len3 cap3 : Nat) (z3 : List Int) (w : World) (zl0 : z0.length = 32) (zw0 : ∀ z ∈ z0, (Lit.int .u8 z).wf = true) (zl1 : z1.length = 12) (zw1 : ∀ z ∈ z1, (Lit.int .u8 z).wf = true) (w2 : (Lit.int .u32 a2).wf = true) (w3 : IsRow .u8 w a3 len3 cap3 z3) (hL : laidMetH Tryd.prog laidList w) :
    Calls Tryd.prog 4 #[.agg (Mem.arr .u8 z0), .agg (Mem.arr .u8 z1), .int .u32 a2, .slice a3 len3 cap3] w fun e w' => e = .returned (.bool true) ∧ Below w.heap.size w w' := by
  obtain ⟨h, hl, hm⟩ := ints_of_row w3
  exact start z0 z1 a2 a3 len3 cap3 _ w h hl zl0 (bs_of_wf zw0) zl1 (bs_of_wf zw1) (r32_of_wf w2) (chacha_of_laid hL)

set_option maxRecDepth 100000 in
theorem door_met (os : Os) (args : Array Value) : laidMetH Tryd.prog laidList ((World.doorLaid Tryd.prog 400 os).forCall (fun _ _ => 0) ⟨#[], args, []⟩).memory :=
  laidMetH_of_parts3 (fuel := 8) (laidMet_of_run' 8 (by kernel_rfl) (by kernel_rfl)) (by kernel_rfl) (by kernel_rfl)

set_option maxRecDepth 100000 in
theorem lifted (os : Os) (started : os.Started) (H : Type) (enc : TypeId × Value → H) :
    ReturnsInHanded {} Tryd.checked os 4 .any (fun w args => (Rows.chachaXorsSpec.pre enc Tryd.prog Tryd.f4 [] false w args ∧ laidMetH Tryd.prog laidList w) ∧ sizedMet enc Tryd.prog Tryd.f4 (OpenSpec.ofChange Rows.chachaXorsSpec) false w args)
      (Rows.chachaXorsSpec.post enc Tryd.prog Tryd.f4 false true false false) := by
  refine returnsInHanded_of_change_and (C := Tryd.checked) (X := fun w _ => laidMetH Tryd.prog laidList w) (fun _ _ _ hh h => h.of_heap hh) own started (by kernel_rfl) Tryd.func4
    (ChangeSpec.witness_shaped (enc := enc) (C := Tryd.checked) (os := os) (X := fun w _ => laidMetH Tryd.prog laidList w) false (World.doorLaid Tryd.prog 400 os) #[.agg (Array.replicate 32 (.int .u8 0)), .agg (Array.replicate 12 (.int .u8 0)), .int .u32 0, .slice none 0 0] 8 rfl (World.shaped_of_RefB (by kernel_rfl) (by kernel_rfl)) (by kernel_rfl) (by kernel_rfl) (by kernel_rfl) (door_met os _)) ?_
  intro W base args ds gs before hval0 hW _ _ hL _
  have hval : ∀ (j : Nat) t v, Tryd.f4.params[j]? = some t → args[j]? = some v → Value.okWide Tryd.prog W .any base t v := hval0
  have hW' := hW
  obtain ⟨p, q, hA0, hV, rfl, hfz, hnd⟩ := hW
  have hA : DataW.TrodAll enc Tryd.prog W 0 (fun _ => true) true Tryd.f4.params.toList args.toList ds p := hA0
  rw [Tryd.params4] at hA hval
  obtain ⟨v0, vs0, d0, ds0, p0, q0, hargs, rfl, rfl, h0, r0⟩ := trodAll_cons hA
  obtain ⟨v1, vs1, d1, ds1, p1, q1, rfl, rfl, rfl, h1, r1⟩ := trodAll_cons r0
  obtain ⟨v2, vs2, d2, ds2, p2, q2, rfl, rfl, rfl, h2, r2⟩ := trodAll_cons r1
  obtain ⟨v3, vs3, d3, ds3, p3, q3, rfl, rfl, rfl, h3, r3⟩ := trodAll_cons r2
  obtain ⟨rfl, rfl, rfl⟩ := trodAll_nil r3
  obtain rfl : args = #[v0, v1, v2, v3] := by cases args; simp_all
  obtain ⟨rfl, rfl⟩ := trodVars_none hV
  have k0 := h0
  have lt0 : ∀ x ∈ p0, x.block < W.heap.size := by obtain ⟨m, hm⟩ := k0; exact DataW.trod_lt m _ _ _ hm
  obtain ⟨z0, rfl, zl0, zw0⟩ := Mem.open_arr Tryd.underlying22 Tryd.underlying5 (by kernel_rfl) (by kernel_rfl) (hval 0 22 v0 rfl rfl) h0
  have k1 := h1
  have lt1 : ∀ x ∈ p1, x.block < W.heap.size := by obtain ⟨m, hm⟩ := k1; exact DataW.trod_lt m _ _ _ hm
  obtain ⟨z1, rfl, zl1, zw1⟩ := Mem.open_arr Tryd.underlying24 Tryd.underlying5 (by kernel_rfl) (by kernel_rfl) (hval 1 24 v1 rfl rfl) h1
  obtain ⟨a2, rfl, rfl, rfl, w2⟩ := open_int Tryd.underlying23 (hval 2 23 v2 rfl rfl) h2
  obtain ⟨a3, len3, cap3, rfl⟩ := okWide_slice Tryd.underlying38 (hval 3 38 v3 rfl rfl)
  have k3 := h3
  have lt3 : ∀ x ∈ p3, x.block < W.heap.size := by obtain ⟨m, hm⟩ := k3; exact DataW.trod_lt m _ _ _ hm
  obtain ⟨z3, w3⟩ : ∃ zs, IsRow .u8 W a3 len3 cap3 zs := by
    obtain ⟨fuel, hf⟩ := h3
    rcases open_ints Tryd.underlying38 Tryd.underlying5 (by kernel_rfl) hf with ⟨hcs, _⟩ | ⟨x, l, c, zs, hcs, _, hl, hm, hz, _, hcell, hwz⟩
    · simp [Value.cells] at hcs
      obtain ⟨rfl, rfl, rfl⟩ := hcs
      exact ⟨[], .inl ⟨rfl, rfl, rfl, rfl⟩⟩
    · simp [Value.cells] at hcs
      obtain ⟨rfl, rfl, rfl⟩ := hcs
      exact ⟨zs, .inr ⟨_, rfl, hl, hm, by simpa using hz, hcell, hwz⟩⟩
  clear hA0 hval0
  refine (walk z0 z1 a2 a3 len3 cap3 z3 W zl0 zw0 zl1 zw1 w2 w3 hL).mono fun e W' ⟨he, bel⟩ => ?_
  subst he
  exact ⟨_, rfl, _, _, _, [], _, [], hW', trodAll_mk1 (shut_bool Tryd.underlying4 _), (trodAll_cons_mk (Below.trod laidOut (by kernel_rfl) (of_decide_eq_true (by kernel_rfl)) k0 bel lt0) (trodAll_cons_mk (Below.trod laidOut (by kernel_rfl) (of_decide_eq_true (by kernel_rfl)) k1 bel lt1) (trodAll_cons_mk (shut_int Tryd.underlying23 w2) (trodAll_cons_mk (Below.trod laidOut (by kernel_rfl) (of_decide_eq_true (by kernel_rfl)) k3 bel lt3) trodAll_mk0)))), rfl, bel.frame _, fun h => by cases h⟩

theorem over : Rows.chachaXorsRow.holds Tryd.pinned (OpenSpec.ofChange Rows.chachaXorsSpec) :=
  OpenClaim.holds_of_wide 4 Tryd.f4 rfl rfl rfl rfl rfl rfl rfl ⟨rfl, rfl, rfl, rfl, rfl⟩ rfl rfl rfl rfl rfl (by kernel_rfl) Tryd.func4 (by kernel_rfl)
    (of_decide_eq_true (by kernel_rfl)) (by unfold Func.isWrapper; first | (rw [if_pos (by decide +kernel)]; kernel_rfl) | (rw [if_neg (by decide +kernel)]; exact ⟨rfl, rfl⟩))
    (fun os started H enc _ => lifted os started H enc)

/-- the statement -/
theorem proved : Rows.ChachaXorsCardSaid :=
  Claim7.holds_tied_plain_at .later [] [.widerDeep] true (true, "57614f36d60a4ae182e142bcf2b768e680c0ae2dfdb0ed6f7e128fd9b707c59f") false
    over (fun _ h => by cases h) (by kernel_rfl) (fun _ h => by cases h) chachaXors_row_tie rfl ⟨rfl, rfl⟩ (by kernel_rfl) rfl
    (fun f fn hf hfn => by
      obtain rfl : f = 4 := Option.some.inj ((show Tryd.prog.funcNamed "domino/dominolaw05.ChachaXors" = some 4 by kernel_rfl).symm.trans hf) |>.symm
      obtain rfl : fn = Tryd.f4 := (Option.some.inj (Tryd.func4.symm.trans hfn)).symm
      exact ⟨by kernel_rfl, fun j t ht => by
        rw [Tryd.params4] at ht
        have hm : t ∈ [22, 24, 23, 38] := by simpa using Array.mem_of_getElem? ht
        have hall : ([22, 24, 23, 38].all fun u => !Tryd.prog.wantsStandIn u) = true := by kernel_rfl
        exact (show Tryd.prog.wantsStandIn t = false by simpa using List.all_eq_true.1 hall t hm)⟩)
    (by kernel_rfl)
#print axioms proved
end Go.Proofs.YtejgnjnmlojdpaaDoor.chachaXors
