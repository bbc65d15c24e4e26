/-
  The law AeadOpens of package dominolaw07 returns true for every key, nonce, bytes beside and sealed bytes: what any bytes are, opened, or why they are none, is the document's own; what is handed in stays, and nobody writes into what is told. The tables of packages chacha and poly hold what the program's text lays.
-/
import Derived.Test.YtebcejncjljmhaaDoorRows
import Derived.Test.YtebcejncjljmhaaDoorCards
import Derived.Test.YtebcejncjljmhaaDoorTie
import Derived.SevenTiedAt
import Derived.WalkKit
import Derived.ProofKit
import Derived.OpenShut
import Derived.ShutString
import Derived.ChangeOld
import Derived.Below
import Derived.LaidMore
import Derived.Stop.Joined
import Derived.Test.YtebcejncjljmhaaDoorB5
import Derived.Test.YtebcejncjljmhaaDoorB1
import Derived.Test.YtebcejncjljmhaaDoorB4
namespace Go.Proofs.YtebcejncjljmhaaDoor.aeadOpens
open Go.ChangeShapes Go.WideShapes Go.ChangeAt Go.RowKit
open Go.ChangeMaps (open_string shut_string)
open Go.Shelf Go.Proofs.YtebcejncjljmhaaDoor.Mem Go.Proofs.YtebcejncjljmhaaDoor.Help Go.Proofs.YtebcejncjljmhaaDoor.Sum Go.Proofs.YtebcejncjljmhaaDoor.Po Go.Proofs.YtebcejncjljmhaaDoor.Ae Go.Proofs.YtebcejncjljmhaaDoor
set_option linter.unusedVariables false

theorem own : ownKnob Tryd.prog.godebug = none := by kernel_rfl
theorem laidOut : laidOutB Tryd.prog = true := by kernel_rfl

/-- what a slice that came in leads to -/
def IsRow (k : IntKind) (w : World) (a : Option Addr) (len cap : Nat) (zs : List Int) : Prop :=
  (a = none ∧ len = 0 ∧ cap = 0 ∧ zs = []) ∨
  ∃ x, a = some x ∧ len ≤ cap ∧ cap ≤ maxLen ∧ zs.length = cap ∧ (∀ i, i < zs.length → w.cell? (x.add i) = some (.int k (zs.getD i 0))) ∧ ∀ n ∈ zs, (Lit.int k n).wf = true

def laidList : List (String × DataW Unit) := [("domino/chacha.start", Rows.laid_domino_chacha_start), ("domino/poly.kept", Rows.laid_domino_poly_kept)]

attribute [local irreducible] wpList Calls
theorem zeros_b (n : Nat) : Bs (List.replicate n 0) := fun z hz => by rw [List.eq_of_mem_replicate hz]; omega
theorem arg_of_row3 {w : World} {g n : Nat} {zs : List Int} {f : Int} (hr : Row w g 5 .u8 (zs ++ [f, f, f])) (hl : zs.length = n) (hn : n ≤ 1099511627776) : Arg w w.heap.size (some ⟨g, 0, none⟩) n (n + 3) zs := ⟨by
    have := hr.ints (n := n) (by simp; omega)
    rwa [List.take_append_of_le_length (by omega), List.take_of_length_le (by omega)] at this, Nat.le_refl _, .inr (.inr ⟨_, _, rfl⟩), by omega, by simp only [maxLen]; omega⟩
set_option maxRecDepth 150000 in
set_option maxHeartbeats 8000000 in
theorem start (key nonce : List Int) (A : Option Addr) (n c : Nat) (xs : List Int) (A2 : Option Addr) (n2 c2 : Nat) (ys : List Int) (w : World) (hL : Laid w.heap.size w) (hk : key.length = 32) (hkb : Bs key) (hnl : nonce.length = 12) (hnb : Bs nonce)
    (h : Arg w w.heap.size A n c xs) (h2 : Arg w w.heap.size A2 n2 c2 ys) :
    Calls Tryd.prog 4 #[.agg (arr .u8 key), .agg (arr .u8 nonce), .slice A n c, .slice A2 n2 c2] w fun e w' => e = .returned (.bool true) ∧ Below w.heap.size w w' := by
  have HK := Lib.hid hk
  have HN := Lib.hid hnl
  have HY := Lib.hid h2.len
  clear hk hnl
  by_cases hbig : 500 < n ∨ 1500 < n2
  · by_cases h1 : 500 < n
    · have q1 : (500 : Int) < (n : Int) := by omega
      go_enter Tryd.func4, Tryd.ntmps4
      go_wp2_with (first
        | (refine wpList_box_Row (w := w) rfl 22 _ rfl .u8 key rfl (bs_wf hkb) ?_; intro w1 r1 g1 z1)
        | (refine wpList_box_Row (w := w1) rfl 23 _ rfl .u8 nonce rfl (bs_wf hnb) ?_; intro w2 r2 g2 z2))
      have b2 : Below w.heap.size w w2 := ((Below.refl _ w).grown g1 (Nat.le_refl _) (by simp)).grown g2 g1.size (by simp)
      refine (awake7_b w.heap.size w2 (hL.below b2) b2.size).mono ?_
      rintro e w' ⟨rfl, hb⟩
      go_wp2_with fail
      go_ret
      exact ⟨rfl, b2.trans (hb.mono b2.size)⟩
    · have q1 : ¬ (500 : Int) < (n : Int) := by omega
      have q2 : (1500 : Int) < (n2 : Int) := by omega
      go_enter Tryd.func4, Tryd.ntmps4
      go_wp2_with (first
        | (refine wpList_box_Row (w := w) rfl 22 _ rfl .u8 key rfl (bs_wf hkb) ?_; intro w1 r1 g1 z1)
        | (refine wpList_box_Row (w := w1) rfl 23 _ rfl .u8 nonce rfl (bs_wf hnb) ?_; intro w2 r2 g2 z2))
      have b2 : Below w.heap.size w w2 := ((Below.refl _ w).grown g1 (Nat.le_refl _) (by simp)).grown g2 g1.size (by simp)
      refine (awake7_b w.heap.size w2 (hL.below b2) b2.size).mono ?_
      rintro e w' ⟨rfl, hb⟩
      go_wp2_with fail
      go_ret
      exact ⟨rfl, b2.trans (hb.mono b2.size)⟩
  have hn : n ≤ 500 := by omega
  have hn2 : n2 ≤ 1500 := by omega
  have q1 : ¬ (500 : Int) < (n : Int) := by omega
  have q2 : ¬ (1500 : Int) < (n2 : Int) := by omega
  have HX := Lib.hid h.len
  go_enter Tryd.func4, Tryd.ntmps4
  go_wp2_with (first
    | (refine wpList_box_Row (w := w) rfl 22 _ rfl .u8 key rfl (bs_wf hkb) ?_; intro w1 r1 g1 z1)
    | (refine wpList_box_Row (w := w1) rfl 23 _ rfl .u8 nonce rfl (bs_wf hnb) ?_; intro w2 r2 g2 z2; have r12 := r1.grown g2 (by simp)))
  obtain ⟨gn, hgn⟩ : ∃ g, w1.heap.size = g := ⟨_, rfl⟩
  have b2 : Below w.heap.size w w2 := ((Below.refl _ w).grown g1 (Nat.le_refl _) (by simp)).grown g2 g1.size (by simp)
  rw [hgn] at r2 ⊢
  clear hgn r1 g1 g2 z1 z2 w1
  refine (own_any w.heap.size A n c xs 71 w2 (h.below b2).ints b2.size (by omega) rfl).mono ?_
  rintro e w3 ⟨gx, rfl, hgx, rx, hb3⟩
  have b3 := b2.trans (hb3.mono b2.size)
  have kx := r12.below hb3 r12.lt
  have nx := r2.below hb3 r2.lt
  clear hb3 r12 r2
  go_wp2_with fail
  refine (own_any w.heap.size A2 n2 c2 ys 71 w3 (h2.below b3).ints b3.size (by omega) rfl).mono ?_
  rintro e w4 ⟨gy, rfl, hgy, ry, hb4⟩
  have b4 := b3.trans (hb4.mono b3.size)
  have kx := kx.below hb4 kx.lt
  have nx := nx.below hb4 nx.lt
  have rx := rx.below hb4 rx.lt
  clear hb4
  go_wp2_with (first
    | (refine wpList_load_Row (w := w4) rfl 22 _ rfl w.heap.size rfl 22 .u8 _ kx 32 5 Tryd.underlying22 size_32b HK.out ?_)
    | (refine wpList_load_Row (w := w4) rfl 23 _ rfl gn rfl 23 .u8 _ nx 12 5 Tryd.underlying23 size_12b HN.out ?_))
  refine (open_told key nonce w.heap.size w4.heap.size (some ⟨gx, 0, none⟩) n (n + 3) xs w4.heap.size (some ⟨gy, 0, none⟩) n2 (n2 + 3) ys w4 (hL.below b4) b4.size HK.out hkb HN.out hnb (arg_of_row3 rx HX.out (by omega)) (by omega) (arg_of_row3 ry HY.out (by omega)) (by omega)).mono ?_
  rintro e w5 ⟨A5, m, c5, p, er, rfl, HM, hm, HT, o5, hb5⟩
  have b5 := b4.trans (hb5.mono b4.size)
  have lx := rx.lt
  have ly := ry.lt
  have kx := kx.below hb5 kx.lt
  have nx := nx.below hb5 nx.lt
  have rx := rx.below hb5 rx.lt
  have ry := ry.below hb5 ry.lt
  clear hb5
  go_wp2_with (first
    | (refine wpList_load_Row (w := w5) rfl 22 _ rfl w.heap.size rfl 22 .u8 _ kx 32 5 Tryd.underlying22 size_32b HK.out ?_)
    | (refine wpList_load_Row (w := w5) rfl 23 _ rfl gn rfl 23 .u8 _ nx 12 5 Tryd.underlying23 size_12b HN.out ?_))
  refine (ropen_told key nonce w.heap.size A n c xs w.heap.size A2 n2 c2 ys w5 HK.out hkb HN.out hnb (h.below b5) (by omega) (h2.below b5) (by omega)).mono ?_
  rintro e w6 ⟨A6, m6, c6, p6, er6, rfl, HM6, hm6, HT6, o6, hb6⟩
  have hpp := HT6.out
  rw [HT.out] at hpp
  injection hpp with hp1 hp2
  subst hp1
  subst hp2
  have hmm : m6 = m := by rw [← HM6.out, HM.out]
  subst hmm
  have b6 := b5.trans (hb6.mono b5.size)
  have rx := rx.below hb6 rx.lt
  have ry := ry.below hb6 ry.lt
  have i6 := (arg_of_own o6 HM6.out).ints
  have o5 := o5.below hb6
  clear hb6 o6 b2 b3 b5 kx nx HT HT6
  go_wp2_with fail
  refine (awake7_b w.heap.size w6 (hL.below b6) b6.size).mono ?_
  rintro e w7 ⟨rfl, hb7⟩
  have b7 := b6.trans (hb7.mono b6.size)
  have rx := rx.below hb7 rx.lt
  have ry := ry.below hb7 ry.lt
  have i6 := i6.below hb7
  have o5 := o5.below hb7
  clear hb7 b6
  go_wp2_with fail
  refine (bytes_any _ _ A5 A6 m6 m6 c5 c6 p p w7 (arg_of_own o5 HM6.out).ints i6).mono ?_
  rintro e w8 ⟨rfl, rfl⟩
  have hd : decide (p = p) = true := by simp
  rw [hd]
  clear hd i6
  go_wp2_with fail
  refine (spoil_any _ A5 m6 c5 p w7 o5 HM6.out (by omega)).mono ?_
  rintro e w8 ⟨rfl, g8⟩
  have s4 := b4.size
  have rx := rx.grown g8 (fun e => by have := (o5.2.lt _ e.symm).1; omega)
  have ry := ry.grown g8 (fun e => by have := (o5.2.lt _ e.symm).1; omega)
  have b8 := b7.grown g8 b7.size (fun r e => by have := (o5.2.lt r e).1; omega)
  clear g8 o5 b7
  go_wp2_with fail
  refine (kept_any w.heap.size A n c gx xs 71 w8 (h.below b8).ints (by omega) rx).mono ?_
  rintro e w9 ⟨rfl, s9⟩
  have ry := ry.below (s9.below _) ry.lt
  have b9 := b8.trans (s9.below _)
  go_wp2_with fail
  refine (kept_any w.heap.size A2 n2 c2 gy ys 71 w9 (h2.below b9).ints (by omega) ry).mono ?_
  rintro e wa ⟨rfl, sa⟩
  go_wp2_with fail
  go_ret
  exact ⟨rfl, b9.trans (sa.below _)⟩

theorem walk (z0 : List Int) (z1 : List Int) (a2 : Option Addr) (len2 cap2 : Nat) (z2 : List Int) (a3 : Option Addr) (len3 cap3 : Nat) (z3 : List Int) (w : World) (zl0 : z0.length = 32) (zw0 : ∀ z ∈ z0, (Lit.int .u8 z).wf = true) (zl1 : z1.length = 12) (zw1 : ∀ z ∈ z1, (Lit.int .u8 z).wf = true) (w2 : IsRow .u8 w a2 len2 cap2 z2) (w3 : IsRow .u8 w a3 len3 cap3 z3) (hL : laidMetH Tryd.prog laidList w) :
    Calls Tryd.prog 4 #[.agg (Mem.arr .u8 z0), .agg (Mem.arr .u8 z1), .slice a2 len2 cap2, .slice a3 len3 cap3] w fun e w' => e = .returned (.bool true) ∧ Below w.heap.size w w' := by
  exact start z0 z1 a2 len2 cap2 _ a3 len3 cap3 _ w (laid_of hL) zl0 (Ae.bs_of_wf zw0) zl1 (Ae.bs_of_wf zw1) (arg_of_row w2) (arg_of_row w3)

set_option maxRecDepth 100000 in
theorem door_met (os : Os) (args : Array Value) : laidMetH Tryd.prog laidList ((World.doorLaid Tryd.prog 400 os).forCall (fun _ _ => 0) ⟨#[], args, []⟩).memory :=
  laidMetH_of_parts3 (fuel := 8) (laidMet_of_run' 8 (by kernel_rfl) (by kernel_rfl)) (by kernel_rfl) (by kernel_rfl)

set_option maxRecDepth 100000 in
theorem lifted (os : Os) (started : os.Started) (H : Type) (enc : TypeId × Value → H) :
    ReturnsInHanded {} Tryd.checked os 4 .any (fun w args => (Rows.aeadOpensSpec.pre enc Tryd.prog Tryd.f4 [] false w args ∧ laidMetH Tryd.prog laidList w) ∧ sizedMet enc Tryd.prog Tryd.f4 (OpenSpec.ofChange Rows.aeadOpensSpec) false w args)
      (Rows.aeadOpensSpec.post enc Tryd.prog Tryd.f4 false true false false) := by
  refine returnsInHanded_of_change_and (C := Tryd.checked) (X := fun w _ => laidMetH Tryd.prog laidList w) (fun _ _ _ hh h => h.of_heap hh) own started (by kernel_rfl) Tryd.func4
    (ChangeSpec.witness_shaped (enc := enc) (C := Tryd.checked) (os := os) (X := fun w _ => laidMetH Tryd.prog laidList w) false (World.doorLaid Tryd.prog 400 os) #[.agg (Array.replicate 32 (.int .u8 0)), .agg (Array.replicate 12 (.int .u8 0)), .slice none 0 0, .slice none 0 0] 8 rfl (World.shaped_of_RefB (by kernel_rfl) (by kernel_rfl)) (by kernel_rfl) (by kernel_rfl) (by kernel_rfl) (door_met os _)) ?_
  intro W base args ds gs before hval0 hW _ _ hL _
  have hval : ∀ (j : Nat) t v, Tryd.f4.params[j]? = some t → args[j]? = some v → Value.okWide Tryd.prog W .any base t v := hval0
  have hW' := hW
  obtain ⟨p, q, hA0, hV, rfl, hfz, hnd⟩ := hW
  have hA : DataW.TrodAll enc Tryd.prog W 0 (fun _ => true) true Tryd.f4.params.toList args.toList ds p := hA0
  rw [Tryd.params4] at hA hval
  obtain ⟨v0, vs0, d0, ds0, p0, q0, hargs, rfl, rfl, h0, r0⟩ := trodAll_cons hA
  obtain ⟨v1, vs1, d1, ds1, p1, q1, rfl, rfl, rfl, h1, r1⟩ := trodAll_cons r0
  obtain ⟨v2, vs2, d2, ds2, p2, q2, rfl, rfl, rfl, h2, r2⟩ := trodAll_cons r1
  obtain ⟨v3, vs3, d3, ds3, p3, q3, rfl, rfl, rfl, h3, r3⟩ := trodAll_cons r2
  obtain ⟨rfl, rfl, rfl⟩ := trodAll_nil r3
  obtain rfl : args = #[v0, v1, v2, v3] := by cases args; simp_all
  obtain ⟨rfl, rfl⟩ := trodVars_none hV
  have k0 := h0
  have lt0 : ∀ x ∈ p0, x.block < W.heap.size := by obtain ⟨m, hm⟩ := k0; exact DataW.trod_lt m _ _ _ hm
  obtain ⟨z0, rfl, zl0, zw0⟩ := Mem.open_arr Tryd.underlying22 Tryd.underlying5 (by kernel_rfl) (by kernel_rfl) (hval 0 22 v0 rfl rfl) h0
  have k1 := h1
  have lt1 : ∀ x ∈ p1, x.block < W.heap.size := by obtain ⟨m, hm⟩ := k1; exact DataW.trod_lt m _ _ _ hm
  obtain ⟨z1, rfl, zl1, zw1⟩ := Mem.open_arr Tryd.underlying23 Tryd.underlying5 (by kernel_rfl) (by kernel_rfl) (hval 1 23 v1 rfl rfl) h1
  obtain ⟨a2, len2, cap2, rfl⟩ := okWide_slice Tryd.underlying24 (hval 2 24 v2 rfl rfl)
  have k2 := h2
  have lt2 : ∀ x ∈ p2, x.block < W.heap.size := by obtain ⟨m, hm⟩ := k2; exact DataW.trod_lt m _ _ _ hm
  obtain ⟨z2, w2⟩ : ∃ zs, IsRow .u8 W a2 len2 cap2 zs := by
    obtain ⟨fuel, hf⟩ := h2
    rcases open_ints Tryd.underlying24 Tryd.underlying5 (by kernel_rfl) hf with ⟨hcs, _⟩ | ⟨x, l, c, zs, hcs, _, hl, hm, hz, _, hcell, hwz⟩
    · simp [Value.cells] at hcs
      obtain ⟨rfl, rfl, rfl⟩ := hcs
      exact ⟨[], .inl ⟨rfl, rfl, rfl, rfl⟩⟩
    · simp [Value.cells] at hcs
      obtain ⟨rfl, rfl, rfl⟩ := hcs
      exact ⟨zs, .inr ⟨_, rfl, hl, hm, by simpa using hz, hcell, hwz⟩⟩
  obtain ⟨a3, len3, cap3, rfl⟩ := okWide_slice Tryd.underlying24 (hval 3 24 v3 rfl rfl)
  have k3 := h3
  have lt3 : ∀ x ∈ p3, x.block < W.heap.size := by obtain ⟨m, hm⟩ := k3; exact DataW.trod_lt m _ _ _ hm
  obtain ⟨z3, w3⟩ : ∃ zs, IsRow .u8 W a3 len3 cap3 zs := by
    obtain ⟨fuel, hf⟩ := h3
    rcases open_ints Tryd.underlying24 Tryd.underlying5 (by kernel_rfl) hf with ⟨hcs, _⟩ | ⟨x, l, c, zs, hcs, _, hl, hm, hz, _, hcell, hwz⟩
    · simp [Value.cells] at hcs
      obtain ⟨rfl, rfl, rfl⟩ := hcs
      exact ⟨[], .inl ⟨rfl, rfl, rfl, rfl⟩⟩
    · simp [Value.cells] at hcs
      obtain ⟨rfl, rfl, rfl⟩ := hcs
      exact ⟨zs, .inr ⟨_, rfl, hl, hm, by simpa using hz, hcell, hwz⟩⟩
  clear hA0 hval0
  refine (walk z0 z1 a2 len2 cap2 z2 a3 len3 cap3 z3 W zl0 zw0 zl1 zw1 w2 w3 hL).mono fun e W' ⟨he, bel⟩ => ?_
  subst he
  exact ⟨_, rfl, _, _, _, [], _, [], hW', trodAll_mk1 (shut_bool Tryd.underlying4 _), (trodAll_cons_mk (Below.trod laidOut (by kernel_rfl) (of_decide_eq_true (by kernel_rfl)) k0 bel lt0) (trodAll_cons_mk (Below.trod laidOut (by kernel_rfl) (of_decide_eq_true (by kernel_rfl)) k1 bel lt1) (trodAll_cons_mk (Below.trod laidOut (by kernel_rfl) (of_decide_eq_true (by kernel_rfl)) k2 bel lt2) (trodAll_cons_mk (Below.trod laidOut (by kernel_rfl) (of_decide_eq_true (by kernel_rfl)) k3 bel lt3) trodAll_mk0)))), rfl, bel.frame _, fun h => by cases h⟩

theorem over : Rows.aeadOpensRow.holds Tryd.pinned (OpenSpec.ofChange Rows.aeadOpensSpec) :=
  OpenClaim.holds_of_wide 4 Tryd.f4 rfl rfl rfl rfl rfl rfl rfl ⟨rfl, rfl, rfl, rfl, rfl⟩ rfl rfl rfl rfl rfl (by kernel_rfl) Tryd.func4 (by kernel_rfl)
    (of_decide_eq_true (by kernel_rfl)) (by unfold Func.isWrapper; first | (rw [if_pos (by decide +kernel)]; kernel_rfl) | (rw [if_neg (by decide +kernel)]; exact ⟨rfl, rfl⟩))
    (fun os started H enc _ => lifted os started H enc)

/-- the statement -/
theorem proved : Rows.AeadOpensCardSaid :=
  Claim7.holds_tied_plain_at .later [] [.widerDeep, .data] true (true, "4b84c088017a6d4a2915d281b40e8f4247fc655ca7215a1524322a39d49a7d87") false
    over (fun _ h => by cases h) (by kernel_rfl) (fun _ h => by cases h) aeadOpens_row_tie rfl ⟨rfl, rfl⟩ (by kernel_rfl) rfl
    (fun f fn hf hfn => by
      obtain rfl : f = 4 := Option.some.inj ((show Tryd.prog.funcNamed "domino/dominolaw07.AeadOpens" = some 4 by kernel_rfl).symm.trans hf) |>.symm
      obtain rfl : fn = Tryd.f4 := (Option.some.inj (Tryd.func4.symm.trans hfn)).symm
      exact ⟨by kernel_rfl, fun j t ht => by
        rw [Tryd.params4] at ht
        have hm : t ∈ [22, 23, 24, 24] := by simpa using Array.mem_of_getElem? ht
        have hall : ([22, 23, 24, 24].all fun u => !Tryd.prog.wantsStandIn u) = true := by kernel_rfl
        exact (show Tryd.prog.wantsStandIn t = false by simpa using List.all_eq_true.1 hall t hm)⟩)
    (by kernel_rfl)
#print axioms proved
end Go.Proofs.YtebcejncjljmhaaDoor.aeadOpens
