/-
  The law BlockPacks of package dominolaw10 returns true for every list of records, every size and every bytes: what the records are packed as, and which records the bytes are, is the document's own answer; what is handed in, and the room behind it, stays.
-/
import Derived.Test.YtjelacblnjbfgaaRows
import Derived.WalkKit
import Derived.ProofKit
import Derived.OpenShut
import Derived.ShutString
import Derived.ChangeOld
import Derived.Below
import Derived.Test.YtjelacblnjbfgaaB10
import Derived.Test.YtjelacblnjbfgaaB8
import Derived.Test.YtjelacblnjbfgaaB5
import Derived.Test.YtjelacblnjbfgaaB11
namespace Go.Proofs.Ytjelacblnjbfgaa.blockPacks
open Go.ChangeShapes Go.WideShapes Go.ChangeAt Go.RowKit
open Go.ChangeMaps (open_string shut_string)
open Go.Shelf Go.Proofs.Ytjelacblnjbfgaa.Mem Go.Proofs.Ytjelacblnjbfgaa.Help Go.Proofs.Ytjelacblnjbfgaa.Sum Go.Proofs.Ytjelacblnjbfgaa.Po Go.Proofs.Ytjelacblnjbfgaa.Ky Go.Proofs.Ytjelacblnjbfgaa.Ct Go.Proofs.Ytjelacblnjbfgaa.Bit Go.Proofs.Ytjelacblnjbfgaa.Held Go.Proofs.Ytjelacblnjbfgaa.Rc Go.Proofs.Ytjelacblnjbfgaa.Rs Go.Proofs.Ytjelacblnjbfgaa
set_option linter.unusedVariables false

theorem own : ownKnob Try.prog.godebug = none := by kernel_rfl
theorem laidOut : laidOutB Try.prog = true := by kernel_rfl

/-- what a slice that came in leads to -/
def IsRow (k : IntKind) (w : World) (a : Option Addr) (len cap : Nat) (zs : List Int) : Prop :=
  (a = none ∧ len = 0 ∧ cap = 0 ∧ zs = []) ∨
  ∃ x, a = some x ∧ len ≤ cap ∧ cap ≤ maxLen ∧ zs.length = cap ∧ (∀ i, i < zs.length → w.cell? (x.add i) = some (.int k (zs.getD i 0))) ∧ ∀ n ∈ zs, (Lit.int k n).wf = true

attribute [local irreducible] wpList Calls

set_option maxRecDepth 100000 in
set_option maxHeartbeats 16000000 in
theorem start (A : Option Addr) (n c : Nat) (rs : List R) (size : Int) (A2 : Option Addr) (n2 c2 : Nat) (zs : List Int) (u : World) (hr : Recs u u.heap.size A n rs) (hc : n ≤ c) (hz : Ints u .u8 u.heap.size A2 n2 zs) (hc2 : n2 ≤ c2) :
    Calls Try.prog 3 #[.slice A n c, .int .i64 size, .slice A2 n2 c2] u fun e u' => e = .returned (.bool true) ∧ Below u.heap.size u u' := by
  by_cases hbig : 50 < n
  · have hbi : (50 : Int) < (n : Int) := by omega
    go_enter Try.func3, Try.ntmps3
    go_wp2_with fail
    refine (awake10_any u).mono ?_
    rintro e u2 ⟨rfl, b2⟩
    go_wp2_with fail
    go_ret
    exact ⟨rfl, b2⟩
  have hbi : ¬ (50 : Int) < (n : Int) := by omega
  by_cases hbig2 : 1000 < n2
  · have hbi2 : (1000 : Int) < (n2 : Int) := by omega
    go_enter Try.func3, Try.ntmps3
    go_wp2_with fail
    refine (awake10_any u).mono ?_
    rintro e u2 ⟨rfl, b2⟩
    go_wp2_with fail
    go_ret
    exact ⟨rfl, b2⟩
  have hbi2 : ¬ (1000 : Int) < (n2 : Int) := by omega
  have HRL := Lib.hid hr.1
  have HZL := Lib.hid hz.1
  obtain ⟨E, hE⟩ : ∃ E, packE n size = E := ⟨_, rfl⟩
  obtain ⟨F, hF⟩ : ∃ F, takesE zs size = F := ⟨_, rfl⟩
  obtain ⟨S, hS⟩ : ∃ S, sizeV size = S := ⟨_, rfl⟩
  have HE := Lib.hid hE
  have HF := Lib.hid hF
  have HS := Lib.hid hS
  clear hE hF hS
  go_enter Try.func3, Try.ntmps3
  go_wp2_with fail
  refine (Rs.own_any u.heap.size A n c rs ⟨false, 71, 0, 0⟩ u hr (Nat.le_refl _) (by omega)).mono ?_
  rintro e u2 ⟨g, rfl, hg, rg, b2⟩
  have ir : Recs u2 u2.heap.size (some ⟨g, 0, none⟩) n rs := by have := recs_of_blk rg hr.2.1; rwa [HRL.out] at this
  go_wp2_with fail
  refine (Help.own_any u2.heap.size A2 n2 c2 zs 71 u2 ((hz.below b2).more b2.size) (Nat.le_refl _) (by omega) rfl).mono ?_
  rintro e u3 ⟨g2, rfl, hg2, rg2, b3⟩
  have ir := (ir.below b3).more b3.size
  have rg := rg.after b3
  have i2 := rg2.ints (n := n2) (by rw [List.length_append, HZL.out]; omega)
  rw [List.take_left' HZL.out] at i2
  have b3 := b2.trans (b3.mono b2.size)
  clear b2 hg hg2
  go_wp2_with fail
  refine (packs_any u3.heap.size _ n (n + 3) rs size u3 ir (Nat.le_refl _)).mono ?_
  rintro e u4 ⟨A4, n4, c4, rfl, h4, o4, b4⟩
  rw [HE.out]
  have rg := rg.after b4
  have i2 := (i2.below b4).more b4.size
  have rg2 := rg2.below b4 rg2.lt
  have b4 := b3.trans (b4.mono b3.size)
  clear b3 ir
  go_wp2_with fail
  refine (rpacks_any u4.heap.size A n c rs size u4 ((hr.below b4).more b4.size) (Nat.le_refl _)).mono ?_
  rintro e u5 ⟨A5, n5, c5, rfl, h5, o5, b5⟩
  rw [HE.out]
  have rg := rg.after b5
  have i2 := (i2.below b5).more b5.size
  have rg2 := rg2.below b5 rg2.lt
  have o4 := o4.below b5
  have b5 := b4.trans (b5.mono b4.size)
  clear b4
  go_wp2_with fail
  refine (takes_any u5.heap.size _ n2 (n2 + 3) zs size u5 i2 (Nat.le_refl _) (by omega)).mono ?_
  rintro e u6 ⟨A6, n6, c6, rfl, o6, b6⟩
  rw [HF.out]
  have rg := rg.after b6
  have rg2 := rg2.below b6 rg2.lt
  have o4 := o4.below b6
  have o5 := o5.below b6
  have b6 := b5.trans (b6.mono b5.size)
  clear b5 i2
  go_wp2_with fail
  refine (rtakes_any u6.heap.size A2 n2 c2 zs size u6 ((hz.below b6).more b6.size) (Nat.le_refl _) hc2).mono ?_
  rintro e u7 ⟨A7, n7, c7, rfl, o7, b7⟩
  rw [HF.out]
  have rg := rg.after b7
  have rg2 := rg2.below b7 rg2.lt
  have o4 := o4.below b7
  have o5 := o5.below b7
  have o6 := o6.below b7
  have b7 := b6.trans (b7.mono b6.size)
  clear b6
  go_wp2_with fail
  refine (awake10_any u7).mono ?_
  rintro e u8 ⟨rfl, b8⟩
  have rg := rg.after b8
  have rg2 := rg2.below b8 rg2.lt
  have o4 := o4.below b8
  have o5 := o5.below b8
  have o6 := o6.below b8
  have o7 := o7.below b8
  have b8 := b7.trans (b8.mono b7.size)
  clear b7
  go_wp2_with fail
  refine (bytes_same u8.heap.size u8.heap.size A4 A5 n4 n5 c4 c5 _ _ u8 (o4.ints h4.out) (o5.ints h5.out) rfl).mono ?_
  rintro e u9 ⟨rfl, b9⟩
  have rg := rg.after b9
  have rg2 := rg2.below b9 rg2.lt
  have o6 := o6.below b9
  have o7 := o7.below b9
  have b9 := b8.trans (b9.mono b8.size)
  clear b8 o4 o5 h4 h5
  go_wp2_with fail
  have h6 := (o6.recs (takesR_wf _ _))
  have h7 := (o7.recs (takesR_wf _ _))
  refine (plain_any u9.heap.size u9.heap.size A6 A7 n6 n7 c6 c7 _ _ u9 h6 h7 (Nat.le_refl _) (Nat.le_refl _) (by have := h6.1; have := takesR_length zs size; omega) (by have := h7.1; have := takesR_length zs size; omega)).mono ?_
  rintro e v1 ⟨rfl, q1⟩
  rw [decide_eq_true (rfl : takesR zs size = takesR zs size)]
  have rg := rg.after q1
  have rg2 := rg2.below q1 rg2.lt
  have q1 := b9.trans (q1.mono b9.size)
  clear b9 h6 h7 o6 o7
  go_wp2_with fail
  refine (size_any size v1).mono ?_
  rintro e v2 ⟨rfl, q2⟩
  rw [HS.out]
  have rg := rg.after q2
  have rg2 := rg2.below q2 rg2.lt
  have q2 := q1.trans (q2.mono q1.size)
  clear q1
  go_wp2_with fail
  refine (rsize_any size v2).mono ?_
  rintro e v3 ⟨rfl, rfl⟩
  rw [HS.out]
  go_wp2_with fail
  refine (Rs.kept_any v2.heap.size A n c g rs ⟨false, 71, 0, 0⟩ v2 ((hr.below q2).more q2.size) (Nat.le_refl _) (by omega) rg).mono ?_
  rintro e v3 ⟨rfl, q3⟩
  have rg2 := rg2.below q3 rg2.lt
  have q3 := q2.trans (q3.mono q2.size)
  clear q2 rg
  go_wp2_with fail
  refine (Help.kept_any v3.heap.size A2 n2 c2 g2 zs 71 v3 ((hz.below q3).more q3.size) (by omega) rg2).mono ?_
  rintro e v4 ⟨rfl, q4⟩
  go_wp2_with fail
  go_ret
  exact ⟨rfl, q3.trans (q4.below _)⟩

theorem walk (A0 : Option Addr) (m0 c0 : Nat) (rs0 : List Rs.R) (a1 : Int) (a2 : Option Addr) (len2 cap2 : Nat) (z2 : List Int) (w : World) (hr0 : Rs.Recs w w.heap.size A0 m0 rs0) (hc0 : m0 ≤ c0 ∧ c0 ≤ maxLen) (w1 : (Lit.int .i64 a1).wf = true) (w2 : IsRow .u8 w a2 len2 cap2 z2) :
    Calls Try.prog 3 #[.slice A0 m0 c0, .int .i64 a1, .slice a2 len2 cap2] w fun e w' => e = .returned (.bool true) ∧ Below w.heap.size w w' := by
  obtain ⟨hz, hn, _⟩ := Mem.ints_of_row w2
  exact start A0 m0 c0 rs0 a1 a2 len2 cap2 _ w hr0 hc0.1 hz hn

set_option maxRecDepth 100000 in
theorem lifted (os : Os) (started : os.Started) (H : Type) (enc : TypeId × Value → H) :
    ReturnsInHanded {} Try.checked os 3 .any (Rows.blockPacksSpec.pre6 enc Try.prog Try.f3 Rows.blockPacksRow.domain false) (Rows.blockPacksSpec.post enc Try.prog Try.f3 false true false false) := by
  refine returnsInHanded_of_change (C := Try.checked) own started (by kernel_rfl) Try.func3
    (ChangeSpec.witness6 (enc := enc) (C := Try.checked) false ⟨#[], #[.slice none 0 0, .int .i64 0, .slice none 0 0], []⟩ 8 (by kernel_rfl) (by kernel_rfl) (by kernel_rfl) (by kernel_rfl)) ?_
  intro W base args ds gs before hval0 hW hcnd _
  have hval : ∀ (j : Nat) t v, Try.f3.params[j]? = some t → args[j]? = some v → Value.okWide Try.prog W .any base t v := hval0
  have hW' := hW
  obtain ⟨p, q, hA0, hV, rfl, hfz, hnd⟩ := hW
  have hA : DataW.TrodAll enc Try.prog W 0 (fun _ => true) true Try.f3.params.toList args.toList ds p := hA0
  rw [Try.params3] at hA hval
  obtain ⟨v0, vs0, d0, ds0, p0, q0, hargs, rfl, rfl, h0, r0⟩ := trodAll_cons hA
  obtain ⟨v1, vs1, d1, ds1, p1, q1, rfl, rfl, rfl, h1, r1⟩ := trodAll_cons r0
  obtain ⟨v2, vs2, d2, ds2, p2, q2, rfl, rfl, rfl, h2, r2⟩ := trodAll_cons r1
  obtain ⟨rfl, rfl, rfl⟩ := trodAll_nil r2
  obtain rfl : args = #[v0, v1, v2] := by cases args; simp_all
  obtain ⟨rfl, rfl⟩ := trodVars_none hV
  obtain ⟨A0, m0, c0, rfl⟩ := okWide_slice Try.underlying22 (hval 0 22 v0 rfl rfl)
  have kk0 := h0
  have lt0 : ∀ x ∈ p0, x.block < W.heap.size := by obtain ⟨m, hm⟩ := kk0; exact DataW.trod_lt m _ _ _ hm
  obtain ⟨rs0, hr0, hc0⟩ := Rs.open_recs h0
  obtain ⟨a1, rfl, rfl, rfl, w1⟩ := open_int Try.underlying3 (hval 1 3 v1 rfl rfl) h1
  obtain ⟨a2, len2, cap2, rfl⟩ := okWide_slice Try.underlying23 (hval 2 23 v2 rfl rfl)
  have k2 := h2
  have lt2 : ∀ x ∈ p2, x.block < W.heap.size := by obtain ⟨m, hm⟩ := k2; exact DataW.trod_lt m _ _ _ hm
  obtain ⟨z2, w2⟩ : ∃ zs, IsRow .u8 W a2 len2 cap2 zs := by
    obtain ⟨fuel, hf⟩ := h2
    rcases open_ints Try.underlying23 Try.underlying5 (by kernel_rfl) hf with ⟨hcs, _⟩ | ⟨x, l, c, zs, hcs, _, hl, hm, hz, _, hcell, hwz⟩
    · simp [Value.cells] at hcs
      obtain ⟨rfl, rfl, rfl⟩ := hcs
      exact ⟨[], .inl ⟨rfl, rfl, rfl, rfl⟩⟩
    · simp [Value.cells] at hcs
      obtain ⟨rfl, rfl, rfl⟩ := hcs
      exact ⟨zs, .inr ⟨_, rfl, hl, hm, by simpa using hz, hcell, hwz⟩⟩
  clear hA0 hval0
  refine (walk A0 m0 c0 rs0 a1 a2 len2 cap2 z2 W hr0 hc0 w1 w2).mono fun e W' ⟨he, bel⟩ => ?_
  subst he
  exact ⟨_, rfl, _, _, _, [], _, [], hW', trodAll_mk1 (shut_bool Try.underlying4 _), (trodAll_cons_mk (Below.trod laidOut (by kernel_rfl) (of_decide_eq_true (by kernel_rfl)) kk0 bel lt0) (trodAll_cons_mk (shut_int Try.underlying3 w1) (trodAll_cons_mk (Below.trod laidOut (by kernel_rfl) (of_decide_eq_true (by kernel_rfl)) k2 bel lt2) trodAll_mk0))), rfl, bel.frame _, fun h => by cases h⟩

theorem over : Rows.blockPacksRow.holds Try.pinned (OpenSpec.ofChange Rows.blockPacksSpec) :=
  OpenClaim.holds_of_wide 3 Try.f3 rfl rfl rfl rfl rfl rfl rfl ⟨rfl, rfl, rfl, rfl, rfl⟩ rfl rfl rfl rfl rfl (by kernel_rfl) Try.func3 (by kernel_rfl)
    (of_decide_eq_true (by kernel_rfl)) (by unfold Func.isWrapper; first | (rw [if_pos (by decide +kernel)]; kernel_rfl) | (rw [if_neg (by decide +kernel)]; exact ⟨rfl, rfl⟩))
    (fun os started H enc _ => lifted os started H enc)

/-- the statement -/
theorem proved : Rows.BlockPacksSaid :=
  over
#print axioms proved
end Go.Proofs.Ytjelacblnjbfgaa.blockPacks
