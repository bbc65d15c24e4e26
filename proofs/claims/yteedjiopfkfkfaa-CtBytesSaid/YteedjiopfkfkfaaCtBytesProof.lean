/-
  The law CtBytes of package dominolaw01 returns true for every two texts and every number: whether they are alike, and which is chosen, is as the document says; what is handed in stays, and nobody writes into what is told. No conditions.
-/
import Derived.Test.YteedjiopfkfkfaaRows
import Derived.WalkKit
import Derived.ProofKit
import Derived.OpenShut
import Derived.ShutString
import Derived.ChangeOld
import Derived.Below
import Derived.Test.YteedjiopfkfkfaaCtb
namespace Go.Proofs.Yteedjiopfkfkfaa.ctBytes
open Go.ChangeShapes Go.WideShapes Go.ChangeAt Go.RowKit
open Go.ChangeMaps (open_string shut_string)
open Go.Proofs.Yteedjiopfkfkfaa.Ct Go.Proofs.Yteedjiopfkfkfaa.Bit Go.Proofs.Yteedjiopfkfkfaa.Mem Go.Proofs.Yteedjiopfkfkfaa.Help
set_option linter.unusedVariables false

theorem own : ownKnob Try.prog.godebug = none := by kernel_rfl
theorem laidOut : laidOutB Try.prog = true := by kernel_rfl

/-- what a slice that came in leads to -/
def IsRow (k : IntKind) (w : World) (a : Option Addr) (len cap : Nat) (zs : List Int) : Prop :=
  (a = none ∧ len = 0 ∧ cap = 0 ∧ zs = []) ∨
  ∃ x, a = some x ∧ len ≤ cap ∧ cap ≤ maxLen ∧ zs.length = cap ∧ (∀ i, i < zs.length → w.cell? (x.add i) = some (.int k (zs.getD i 0))) ∧ ∀ n ∈ zs, (Lit.int k n).wf = true

theorem rowInts {w : World} {g n : Nat} {zs : List Int} {f : Int} (hr : Row w g 5 .u8 (zs ++ [f, f, f])) (hl : zs.length = n) : Ints w .u8 w.heap.size (some ⟨g, 0, none⟩) n zs := by
  have hi := hr.ints (n := n) (by simp; omega)
  rwa [List.take_left' hl] at hi

theorem core (A A' : Option Addr) (n n' cap cap' : Nat) (zs zs' : List Int) (x : Int) (w : World) (h : Ints w .u8 w.heap.size A n zs) (h' : Ints w .u8 w.heap.size A' n' zs') (h1 : n ≤ 3000) (h2 : n' ≤ 3000) (hx : 0 ≤ x ∧ x ≤ 18446744073709551615) :
    Calls Try.prog 4 #[.slice A n cap, .slice A' n' cap', .int .u64 x] w fun e w' => e = .returned (.bool true) ∧ Below w.heap.size w w' := by
  have hgt : ¬ (3000 : Int) < (n : Int) := by omega
  have hgt' : ¬ (3000 : Int) < (n' : Int) := by omega
  have E1 := Lib.hid (show eqI zs zs = 1 by unfold eqI; rw [if_pos rfl])
  have HL := Lib.hid h.1
  have HL' := Lib.hid h'.1
  have HN := Lib.hid (show (chooseL x zs zs').length ≤ 3000 by
    have a := HL.out
    have b := HL'.out
    unfold chooseL
    split
    · split <;> omega
    · simp)
  go_enter Try.func4, Try.ntmps4
  go_wp2_with fail
  refine (own_any _ A n cap zs 71 _ h (Nat.le_refl _) (by omega) rfl).mono ?_
  rintro e w1 ⟨g1, rfl, hg1, hr1, hb1⟩
  have s1 := hb1.size
  go_wp2_with fail
  refine (own_any _ A' n' cap' zs' 71 _ (h'.below hb1) s1 (by omega) rfl).mono ?_
  rintro e w2 ⟨g2, rfl, hg2, hr2, hb2⟩
  have s2 := hb2.size
  have k1 := hr1.below hb2 hr1.lt
  have b2 : Below w.heap.size w w2 := hb1.trans (hb2.mono s1)
  clear hr1 hb1 hb2
  have l1 := k1.lt
  have l2 := hr2.lt
  go_wp2_with fail
  refine (choose_any _ _ x _ _ n n' _ _ zs zs' _ (by omega) (by omega) (rowInts k1 HL.out) (rowInts hr2 HL'.out) (Nat.le_refl _) (Nat.le_refl _) (by omega) (by omega)).mono ?_
  rintro e w3 ⟨v, rfl, hown, hb3⟩
  have s3 := hb3.size
  have r1 := k1.below hb3 l1
  have r2 := hr2.below hb3 l2
  have b3 : Below w.heap.size w w3 := b2.trans (hb3.mono (by omega))
  clear k1 hr2 hb3 b2
  obtain ⟨A3, c3, rfl, _, _, _⟩ := hown.form
  go_wp2_with fail
  refine (awake_any _).mono ?_
  rintro e w' ⟨rfl, rfl⟩
  go_wp2_with fail
  refine (equal_any _ _ _ _ n n' _ _ zs zs' _ (rowInts r1 HL.out) (rowInts r2 HL'.out) (by omega) (by omega)).mono ?_
  rintro e w4 ⟨rfl, st4⟩
  have b4 := b3.trans (st4.below _)
  go_wp2_with fail
  refine (requal_any _ _ _ _ n n' _ _ zs zs' _ (h.below b4) (h'.below b4)).mono ?_
  rintro e w' ⟨rfl, rfl⟩
  go_wp2_with fail
  refine (equal_any _ _ _ _ n n _ _ zs zs _ (st4.ints (rowInts r1 HL.out)) (h.below b4) (by omega) (by omega)).mono ?_
  rintro e w5 ⟨rfl, st5'⟩
  rw [E1.out]
  have st5 := st4.trans st5'
  have b5 := b3.trans (st5.below _)
  clear st4 st5' b4 b3
  go_wp2_with fail
  refine (rchoose_any _ _ x _ _ n n' _ _ zs zs' _ (by omega) (by omega) (h.below b5) (h'.below b5) (by omega) (by omega)).mono ?_
  rintro e w6 ⟨v6, rfl, hown6, hb6⟩
  have t1 := (st5.size ▸ s3 : w2.heap.size ≤ w5.heap.size)
  have hb36 : Below w3.heap.size w3 w6 := (st5.below _).trans (by rw [← st5.size]; exact hb6)
  have q1 := r1.below hb36 r1.lt
  have q2 := r2.below hb36 r2.lt
  have o6 := hown.below hb36
  have b6 : Below w.heap.size w w6 := b5.trans (hb6.mono b5.size)
  clear hb6 hb36 b5 st5 r1 r2 hown
  obtain ⟨A6, c6, rfl, _, _, i6⟩ := hown6.form
  go_wp2_with fail
  refine (bytes_any _ _ _ _ _ _ _ _ _ _ _ (o6.ints rfl) i6).mono ?_
  rintro e w' ⟨rfl, rfl⟩
  clear i6 hown6
  go_wp2_with fail
  refine (spoil_any _ _ _ _ _ _ o6 rfl (by have := HN.out; omega)).mono ?_
  rintro e w7 ⟨rfl, g7⟩
  have hne : ∀ g, g < w2.heap.size → some g ≠ Value.ownBlock (.slice A3 (chooseL x zs zs').length c3) := fun g hg e => by
    have := (o6.2.lt g e.symm).1
    omega
  have p1 := q1.grown g7 (hne g1 l1)
  have p2 := q2.grown g7 (hne g2 l2)
  have b7 : Below w.heap.size w w7 := b6.grown g7 b6.size (fun q hq => by have := (o6.2.lt q hq).1; omega)
  clear hne g7 q1 q2 b6 o6
  go_wp2_with fail
  refine (kept_any _ A n cap g1 zs 71 _ (h.below b7) (by omega) p1).mono ?_
  rintro e w8 ⟨rfl, st8⟩
  have b8 := b7.trans (st8.below _)
  have p2' : Row w8 g2 5 .u8 (zs' ++ [71, 71, 71]) := p2.below (st8.below w7.heap.size) p2.lt
  clear b7 st8 p1 p2
  go_wp2_with fail
  refine (kept_any _ A' n' cap' g2 zs' 71 _ (h'.below b8) (by omega) p2').mono ?_
  rintro e w9 ⟨rfl, st9⟩
  have b9 := b8.trans (st9.below _)
  go_wp2_with fail
  go_ret
  exact ⟨rfl, b9⟩

theorem walk (a0 : Option Addr) (len0 cap0 : Nat) (z0 : List Int) (a1 : Option Addr) (len1 cap1 : Nat) (z1 : List Int) (a2 : Int) (w : World) (w0 : IsRow .u8 w a0 len0 cap0 z0) (w1 : IsRow .u8 w a1 len1 cap1 z1) (w2 : (Lit.int .u64 a2).wf = true) :
    Calls Try.prog 4 #[.slice a0 len0 cap0, .slice a1 len1 cap1, .int .u64 a2] w fun e w' => e = .returned (.bool true) ∧ Below w.heap.size w w' := by
  obtain ⟨h, hl, hm⟩ := ints_of_row w0
  obtain ⟨h', hl', hm'⟩ := ints_of_row w1
  unfold maxLen at hm hm'
  by_cases h1 : len0 ≤ 3000
  · by_cases h2 : len1 ≤ 3000
    · exact core a0 a1 len0 len1 cap0 cap1 _ _ a2 w h h' h1 h2 (wf_u64 w2)
    · have hgt : ¬ (3000 : Int) < (len0 : Int) := by omega
      have hgt' : (3000 : Int) < (len1 : Int) := by omega
      go_enter Try.func4, Try.ntmps4
      go_wp2_with (go_at_call 9; refine (awake_any _).mono ?_; rintro e w' ⟨rfl, rfl⟩)
      go_ret
      exact ⟨rfl, Below.refl _ _⟩
  · have hgt : (3000 : Int) < (len0 : Int) := by omega
    go_enter Try.func4, Try.ntmps4
    go_wp2_with (go_at_call 9; refine (awake_any _).mono ?_; rintro e w' ⟨rfl, rfl⟩)
    go_ret
    exact ⟨rfl, Below.refl _ _⟩

set_option maxRecDepth 100000 in
theorem lifted (os : Os) (started : os.Started) (H : Type) (enc : TypeId × Value → H) :
    ReturnsInHanded {} Try.checked os 4 .any (Rows.ctBytesSpec.pre6 enc Try.prog Try.f4 Rows.ctBytesRow.domain false) (Rows.ctBytesSpec.post enc Try.prog Try.f4 false true false false) := by
  refine returnsInHanded_of_change (C := Try.checked) own started (by kernel_rfl) Try.func4
    (ChangeSpec.witness6 (enc := enc) (C := Try.checked) false ⟨#[], #[.slice none 0 0, .slice none 0 0, .int .u64 0], []⟩ 8 (by kernel_rfl) (by kernel_rfl) (by kernel_rfl) (by kernel_rfl)) ?_
  intro W base args ds gs before hval0 hW hcnd _
  have hval : ∀ (j : Nat) t v, Try.f4.params[j]? = some t → args[j]? = some v → Value.okWide Try.prog W .any base t v := hval0
  have hW' := hW
  obtain ⟨p, q, hA0, hV, rfl, hfz, hnd⟩ := hW
  have hA : DataW.TrodAll enc Try.prog W 0 (fun _ => true) true Try.f4.params.toList args.toList ds p := hA0
  rw [Try.params4] at hA hval
  obtain ⟨v0, vs0, d0, ds0, p0, q0, hargs, rfl, rfl, h0, r0⟩ := trodAll_cons hA
  obtain ⟨v1, vs1, d1, ds1, p1, q1, rfl, rfl, rfl, h1, r1⟩ := trodAll_cons r0
  obtain ⟨v2, vs2, d2, ds2, p2, q2, rfl, rfl, rfl, h2, r2⟩ := trodAll_cons r1
  obtain ⟨rfl, rfl, rfl⟩ := trodAll_nil r2
  obtain rfl : args = #[v0, v1, v2] := by cases args; simp_all
  obtain ⟨rfl, rfl⟩ := trodVars_none hV
  obtain ⟨a0, len0, cap0, rfl⟩ := okWide_slice Try.underlying28 (hval 0 28 v0 rfl rfl)
  have k0 := h0
  have lt0 : ∀ x ∈ p0, x.block < W.heap.size := by obtain ⟨m, hm⟩ := k0; exact DataW.trod_lt m _ _ _ hm
  obtain ⟨z0, w0⟩ : ∃ zs, IsRow .u8 W a0 len0 cap0 zs := by
    obtain ⟨fuel, hf⟩ := h0
    rcases open_ints Try.underlying28 Try.underlying5 (by kernel_rfl) hf with ⟨hcs, _⟩ | ⟨x, l, c, zs, hcs, _, hl, hm, hz, _, hcell, hwz⟩
    · simp [Value.cells] at hcs
      obtain ⟨rfl, rfl, rfl⟩ := hcs
      exact ⟨[], .inl ⟨rfl, rfl, rfl, rfl⟩⟩
    · simp [Value.cells] at hcs
      obtain ⟨rfl, rfl, rfl⟩ := hcs
      exact ⟨zs, .inr ⟨_, rfl, hl, hm, by simpa using hz, hcell, hwz⟩⟩
  obtain ⟨a1, len1, cap1, rfl⟩ := okWide_slice Try.underlying28 (hval 1 28 v1 rfl rfl)
  have k1 := h1
  have lt1 : ∀ x ∈ p1, x.block < W.heap.size := by obtain ⟨m, hm⟩ := k1; exact DataW.trod_lt m _ _ _ hm
  obtain ⟨z1, w1⟩ : ∃ zs, IsRow .u8 W a1 len1 cap1 zs := by
    obtain ⟨fuel, hf⟩ := h1
    rcases open_ints Try.underlying28 Try.underlying5 (by kernel_rfl) hf with ⟨hcs, _⟩ | ⟨x, l, c, zs, hcs, _, hl, hm, hz, _, hcell, hwz⟩
    · simp [Value.cells] at hcs
      obtain ⟨rfl, rfl, rfl⟩ := hcs
      exact ⟨[], .inl ⟨rfl, rfl, rfl, rfl⟩⟩
    · simp [Value.cells] at hcs
      obtain ⟨rfl, rfl, rfl⟩ := hcs
      exact ⟨zs, .inr ⟨_, rfl, hl, hm, by simpa using hz, hcell, hwz⟩⟩
  obtain ⟨a2, rfl, rfl, rfl, w2⟩ := open_int Try.underlying22 (hval 2 22 v2 rfl rfl) h2
  clear hA0 hval0
  refine (walk a0 len0 cap0 z0 a1 len1 cap1 z1 a2 W w0 w1 w2).mono fun e W' ⟨he, bel⟩ => ?_
  subst he
  exact ⟨_, rfl, _, _, _, [], _, [], hW', trodAll_mk1 (shut_bool Try.underlying4 _), (trodAll_cons_mk (Below.trod laidOut (by kernel_rfl) (of_decide_eq_true (by kernel_rfl)) k0 bel lt0) (trodAll_cons_mk (Below.trod laidOut (by kernel_rfl) (of_decide_eq_true (by kernel_rfl)) k1 bel lt1) (trodAll_cons_mk (shut_int Try.underlying22 w2) trodAll_mk0))), rfl, bel.frame _, fun h => by cases h⟩

theorem over : Rows.ctBytesRow.holds Try.pinned (OpenSpec.ofChange Rows.ctBytesSpec) :=
  OpenClaim.holds_of_wide 4 Try.f4 rfl rfl rfl rfl rfl rfl rfl ⟨rfl, rfl, rfl, rfl, rfl⟩ rfl rfl rfl rfl rfl (by kernel_rfl) Try.func4 (by kernel_rfl)
    (of_decide_eq_true (by kernel_rfl)) (by unfold Func.isWrapper; first | (rw [if_pos (by decide +kernel)]; kernel_rfl) | (rw [if_neg (by decide +kernel)]; exact ⟨rfl, rfl⟩))
    (fun os started H enc _ => lifted os started H enc)

/-- the statement -/
theorem proved : Rows.CtBytesSaid := over
#print axioms proved
end Go.Proofs.Yteedjiopfkfkfaa.ctBytes
