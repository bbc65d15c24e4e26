/-
  The law CtOneByte of package dominolaw01 returns true for every text, place and two bytes: texts that differ in one byte, or in length, are not alike, and each is like itself. No conditions.
-/
import Derived.Test.YteedjiopfkfkfaaRows
import Derived.WalkKit
import Derived.ProofKit
import Derived.OpenShut
import Derived.ShutString
import Derived.ChangeOld
import Derived.Below
import Derived.Test.YteedjiopfkfkfaaCtb
namespace Go.Proofs.Yteedjiopfkfkfaa.ctOneByte
open Go.ChangeShapes Go.WideShapes Go.ChangeAt Go.RowKit
open Go.ChangeMaps (open_string shut_string)
open Go.Proofs.Yteedjiopfkfkfaa.Ct Go.Proofs.Yteedjiopfkfkfaa.Bit Go.Proofs.Yteedjiopfkfkfaa.Mem Go.Proofs.Yteedjiopfkfkfaa.Help
set_option linter.unusedVariables false

theorem own : ownKnob Try.prog.godebug = none := by kernel_rfl
theorem laidOut : laidOutB Try.prog = true := by kernel_rfl

/-- what a slice that came in leads to -/
def IsRow (k : IntKind) (w : World) (a : Option Addr) (len cap : Nat) (zs : List Int) : Prop :=
  (a = none ∧ len = 0 ∧ cap = 0 ∧ zs = []) ∨
  ∃ x, a = some x ∧ len ≤ cap ∧ cap ≤ maxLen ∧ zs.length = cap ∧ (∀ i, i < zs.length → w.cell? (x.add i) = some (.int k (zs.getD i 0))) ∧ ∀ n ∈ zs, (Lit.int k n).wf = true

theorem place_of (p : Int) (n : Nat) (hn : 0 < n) (h2 : n ≤ 2000) : ∃ k : Nat, k < n ∧ wrap64 ((IntKind.u64.wrap p).tmod (n : Int)) = (k : Int) := by
  have h0 : 0 ≤ p % 18446744073709551616 := by omega
  have e : (IntKind.u64.wrap p).tmod (n : Int) = (p % 18446744073709551616) % (n : Int) := by rw [IntKind.wrap_u64, Int.tmod_eq_emod_of_nonneg h0]
  have a := Int.emod_nonneg (p % 18446744073709551616) (show (n : Int) ≠ 0 by omega)
  have b := Int.emod_lt_of_pos (p % 18446744073709551616) (show (0 : Int) < (n : Int) by omega)
  refine ⟨((p % 18446744073709551616) % (n : Int)).toNat, by omega, ?_⟩
  rw [e, IntWalk.wrap64_in _ (by omega)]
  omega

theorem set_same (zs : List Int) (k : Nat) (y : Int) (hk : k < zs.length) : zs = zs.set k y ↔ y = zs.getD k 0 := by
  simp only [List.getD_eq_getElem?_getD, List.getElem?_eq_getElem hk, Option.getD_some]
  constructor
  · intro e
    have := congrArg (fun l => l[k]?) e
    simp [hk] at this
    exact this.symm
  · intro e
    rw [e, List.set_getElem_self]

theorem xor_same (x d : Int) (hx : 0 ≤ x ∧ x ≤ 255) (hd : 0 ≤ d ∧ d ≤ 255) : bits .xor .u8 x d = x ↔ d = 0 := by
  rw [u8_xor x d (by omega) (by omega) (by omega) (by omega)]
  constructor
  · intro e
    have e1 : x.toNat ^^^ d.toNat = x.toNat := by omega
    have e2 : d.toNat = 0 := by rw [← Nat.zero_xor d.toNat, ← Nat.xor_self x.toNat, Nat.xor_assoc, e1, Nat.xor_self]
    omega
  · rintro rfl
    have : (0 : Int).toNat = 0 := rfl
    rw [this, Nat.xor_zero]
    omega

theorem one_new (w : World) (t : TypeId) (z : Int) (hz : (Lit.int .u8 z).wf = true) : Ints (w.alloc (.cells #[.int .u8 z] t)) .u8 (w.heap.size + 1) (some ⟨w.heap.size, 0, none⟩) 1 [z] := by
  refine ⟨rfl, fun y hy => by simp at hy; rw [hy]; exact hz, fun _ => ⟨w.heap.size, 0, rfl, by omega, fun i hi => ?_⟩⟩
  have : i = 0 := by omega
  subst this
  rw [cell_of_row _ _ _ _ _ _ (heap_alloc_new w _)]
  rfl

theorem core (A : Option Addr) (n cap : Nat) (zs : List Int) (p x y : Int) (w : World) (h : Ints w .u8 w.heap.size A n zs) (hn : 0 < n) (h2 : n ≤ 2000) (hp : -9223372036854775808 ≤ p ∧ p ≤ 9223372036854775807) (hx : 0 ≤ x ∧ x ≤ 255) (hy : 0 ≤ y ∧ y ≤ 255) :
    Calls Try.prog 7 #[.slice A n cap, .int .i64 p, .int .u8 x, .int .u8 y] w fun e w' => e = .returned (.bool true) ∧ Below w.heap.size w w' := by
  have hp0 : (0 : Int) < (n : Int) := by omega
  have hne : ((n : Int) == 0) = false := by simp; omega
  have hgt : ¬ (2000 : Int) < (n : Int) := by omega
  go_enter Try.func7, Try.ntmps7
  go_wp2_with fail
  refine (copy_any _ A n cap zs _ h (by omega)).mono ?_
  rintro e w1 ⟨v, rfl, hown, hb1⟩
  obtain ⟨g, c1, rfl, hg0, hg1, hc1, hc2, hcell, hfr⟩ := hown.at_ (by rw [h.1]; exact hn)
  have HC := Lib.hid hcell
  clear hcell
  have hlen := Lib.hid h.1
  rw [h.1] at hown hc1 ⊢
  obtain ⟨k, hk, eK⟩ := place_of p n hn h2
  have hkz : k < zs.length := by rw [h.1]; exact hk
  have hk0 : (0 : Int) ≤ (k : Int) := by omega
  have hk1 : (k : Int) < (n : Int) := by omega
  have hck := HC.out k hkz
  have hfk := hfr k
  have rx := wf_u8 (h.range hk)
  clear hfr
  have hown2 := hown
  rw [← h.1] at hown2
  have hset := hown2.set k (wf_bits .xor .u8 (zs.getD k 0) x)
  rw [h.1] at hset
  have X1 := set_same zs k (bits .xor .u8 (zs.getD k 0) x) hkz
  have X2 := xor_same (zs.getD k 0) x rx hx
  have e1 : eqI zs (zs.set k (bits .xor .u8 (zs.getD k 0) x)) = if x = 0 then 1 else 0 := by
    unfold eqI
    by_cases e : x = 0
    · rw [if_pos e, if_pos (X1.2 (X2.2 e))]
    · rw [if_neg e, if_neg (fun q => e (X2.1 (X1.1 q)))]
  have e2 : eqI zs (zs ++ [y]) = 0 := by
    unfold eqI; rw [if_neg]; intro e; have := congrArg List.length e; simp at this
  have e3 : eqI zs zs = 1 := by unfold eqI; rw [if_pos rfl]
  have hl2 : (zs.set k (bits .xor .u8 (zs.getD k 0) x)).length = n := by rw [List.length_set]; exact h.1
  obtain ⟨ys, hys⟩ : ∃ ys, ys = zs.set k (bits .xor .u8 (zs.getD k 0) x) := ⟨_, rfl⟩
  rw [← hys] at e1 hset hl2
  clear hown hown2 X1 X2 hys
  have E2 := Lib.hid e2
  have E3 := Lib.hid e3
  have HSET := Lib.hid hset
  have HL2 := Lib.hid hl2
  clear e2 e3 hset hl2
  generalize zs.getD k 0 = z at hck rx HSET
  by_cases hx0 : x = 0
  case' pos =>
    subst hx0
    rw [if_pos rfl] at e1
  case' neg =>
    rw [if_neg hx0] at e1
    have t : (x == 0) = false := by simpa using hx0
    clear hx0
  all_goals
    have E1 := Lib.hid e1
    clear e1
    go_wp2_with fail
    refine (awake_any _).mono ?_
    rintro e w2 ⟨rfl, hw2⟩
    have hb2 : Below w.heap.size w w2 := by rw [← hw2]; exact hb1.setCell hg0 _
    rw [hw2] at HSET
    clear hw2 hb1 hck hfk
    have s2 := hb2.size
    go_wp2_with fail
    refine (equal_any _ _ _ _ _ _ _ _ _ _ _ (h.below hb2) (HSET.out.ints HL2.out) (by omega) (by omega)).mono ?_
    rintro e w3 ⟨rfl, hst3⟩
    rw [E1.out]
    have hb3 : Below w.heap.size w w3 := hb2.trans (hst3.below _)
    clear hb2 HSET hst3 s2
    have s3 := hb3.size
    go_wp2_with fail
    refine (copy_any _ A n cap zs _ (h.below hb3) (by omega)).mono ?_
    rintro e w4 ⟨v4, rfl, hown4, hb4'⟩
    obtain ⟨A4, c4, rfl, hc41, hc42, hi4⟩ := hown4.form
    have hb4 : Below w.heap.size w w4 := hb3.trans (hb4'.mono s3)
    clear hb4' hi4 hb3
    have s4 := hb4.size
    rw [h.1] at hown4 hc41 ⊢
    have HO := Lib.hid (hown4.less s3)
    clear hown4
    go_wp2_with (at_builtin; refine wpList_append_ints _ rfl _ _ 28 rfl w.heap.size 5 .u8 1 Try.underlying28 info_u8 (.slice A4 n c4) zs rfl (HO.out.alloc _) (w4.heap.size + 1) (some ⟨w4.heap.size, 0, none⟩) 1 1 [y] rfl (one_new _ _ _ (by simpa [Lit.wf, IntKind.min, IntKind.max, IntKind.signed, IntKind.bits] using hy)) (by have := hlen.out; omega) (by omega) (by simp; omega) ?_; intro v5 w5 hown5 hg5 hat5)
    have hb5 : Below w.heap.size w w5 := (hb4.alloc s4 _).grown hg5 (by simp; omega) (fun q hq => (HO.out.2.lt q hq).1)
    obtain ⟨A5, c5, rfl, hc51, hc52, hi5⟩ := hown5.form
    clear hown5 hg5 hat5 hb4 s4 hc51 hc52 HO hc41 hc42
    have s5 := hb5.size
    refine (equal_any _ _ _ _ _ _ _ _ _ _ _ (h.below hb5) hi5 (by omega) (by have := hlen.out; simp; omega)).mono ?_
    rintro e w6 ⟨rfl, hst6⟩
    rw [E2.out]
    have hb6 : Below w.heap.size w w6 := hb5.trans (hst6.below _)
    clear hb5 hst6 hi5
    go_wp2_with fail
    refine (equal_any _ _ _ _ _ _ _ _ _ _ _ (h.below hb6) (h.below hb6) (by omega) (by omega)).mono ?_
    rintro e w7 ⟨rfl, hst7⟩
    rw [E3.out]
    have hb7 : Below w.heap.size w w7 := hb6.trans (hst7.below _)
    clear hb6 hst7
    go_wp2_with fail
    go_ret
    exact ⟨rfl, hb7⟩

theorem walk (a0 : Option Addr) (len0 cap0 : Nat) (z0 : List Int) (a1 : Int) (a2 : Int) (a3 : Int) (w : World) (w0 : IsRow .u8 w a0 len0 cap0 z0) (w1 : (Lit.int .i64 a1).wf = true) (w2 : (Lit.int .u8 a2).wf = true) (w3 : (Lit.int .u8 a3).wf = true) :
    Calls Try.prog 7 #[.slice a0 len0 cap0, .int .i64 a1, .int .u8 a2, .int .u8 a3] w fun e w' => e = .returned (.bool true) ∧ Below w.heap.size w w' := by
  obtain ⟨h, hl, hm⟩ := ints_of_row w0
  unfold maxLen at hm
  by_cases hn : len0 = 0
  · have e1 : ((len0 : Int) == 0) = true := by simp [hn]
    go_enter Try.func7, Try.ntmps7
    go_wp2_with (go_at_call 9; refine (awake_any _).mono ?_; rintro e w' ⟨rfl, rfl⟩)
    go_ret
    exact ⟨rfl, Below.refl _ _⟩
  · by_cases h5 : len0 ≤ 2000
    · exact core a0 len0 cap0 _ a1 a2 a3 w h (by omega) h5 (wf_i64 w1) (wf_u8 w2) (wf_u8 w3)
    · have hne : ((len0 : Int) == 0) = false := by simp; omega
      have hgt : (2000 : Int) < (len0 : Int) := by omega
      go_enter Try.func7, Try.ntmps7
      go_wp2_with (go_at_call 9; refine (awake_any _).mono ?_; rintro e w' ⟨rfl, rfl⟩)
      go_ret
      exact ⟨rfl, Below.refl _ _⟩

set_option maxRecDepth 100000 in
theorem lifted (os : Os) (started : os.Started) (H : Type) (enc : TypeId × Value → H) :
    ReturnsInHanded {} Try.checked os 7 .any (Rows.ctOneByteSpec.pre6 enc Try.prog Try.f7 Rows.ctOneByteRow.domain false) (Rows.ctOneByteSpec.post enc Try.prog Try.f7 false true false false) := by
  refine returnsInHanded_of_change (C := Try.checked) own started (by kernel_rfl) Try.func7
    (ChangeSpec.witness6 (enc := enc) (C := Try.checked) false ⟨#[], #[.slice none 0 0, .int .i64 0, .int .u8 0, .int .u8 0], []⟩ 8 (by kernel_rfl) (by kernel_rfl) (by kernel_rfl) (by kernel_rfl)) ?_
  intro W base args ds gs before hval0 hW hcnd _
  have hval : ∀ (j : Nat) t v, Try.f7.params[j]? = some t → args[j]? = some v → Value.okWide Try.prog W .any base t v := hval0
  have hW' := hW
  obtain ⟨p, q, hA0, hV, rfl, hfz, hnd⟩ := hW
  have hA : DataW.TrodAll enc Try.prog W 0 (fun _ => true) true Try.f7.params.toList args.toList ds p := hA0
  rw [Try.params7] at hA hval
  obtain ⟨v0, vs0, d0, ds0, p0, q0, hargs, rfl, rfl, h0, r0⟩ := trodAll_cons hA
  obtain ⟨v1, vs1, d1, ds1, p1, q1, rfl, rfl, rfl, h1, r1⟩ := trodAll_cons r0
  obtain ⟨v2, vs2, d2, ds2, p2, q2, rfl, rfl, rfl, h2, r2⟩ := trodAll_cons r1
  obtain ⟨v3, vs3, d3, ds3, p3, q3, rfl, rfl, rfl, h3, r3⟩ := trodAll_cons r2
  obtain ⟨rfl, rfl, rfl⟩ := trodAll_nil r3
  obtain rfl : args = #[v0, v1, v2, v3] := by cases args; simp_all
  obtain ⟨rfl, rfl⟩ := trodVars_none hV
  obtain ⟨a0, len0, cap0, rfl⟩ := okWide_slice Try.underlying28 (hval 0 28 v0 rfl rfl)
  have k0 := h0
  have lt0 : ∀ x ∈ p0, x.block < W.heap.size := by obtain ⟨m, hm⟩ := k0; exact DataW.trod_lt m _ _ _ hm
  obtain ⟨z0, w0⟩ : ∃ zs, IsRow .u8 W a0 len0 cap0 zs := by
    obtain ⟨fuel, hf⟩ := h0
    rcases open_ints Try.underlying28 Try.underlying5 (by kernel_rfl) hf with ⟨hcs, _⟩ | ⟨x, l, c, zs, hcs, _, hl, hm, hz, _, hcell, hwz⟩
    · simp [Value.cells] at hcs
      obtain ⟨rfl, rfl, rfl⟩ := hcs
      exact ⟨[], .inl ⟨rfl, rfl, rfl, rfl⟩⟩
    · simp [Value.cells] at hcs
      obtain ⟨rfl, rfl, rfl⟩ := hcs
      exact ⟨zs, .inr ⟨_, rfl, hl, hm, by simpa using hz, hcell, hwz⟩⟩
  obtain ⟨a1, rfl, rfl, rfl, w1⟩ := open_int Try.underlying3 (hval 1 3 v1 rfl rfl) h1
  obtain ⟨a2, rfl, rfl, rfl, w2⟩ := open_int Try.underlying5 (hval 2 5 v2 rfl rfl) h2
  obtain ⟨a3, rfl, rfl, rfl, w3⟩ := open_int Try.underlying5 (hval 3 5 v3 rfl rfl) h3
  clear hA0 hval0
  refine (walk a0 len0 cap0 z0 a1 a2 a3 W w0 w1 w2 w3).mono fun e W' ⟨he, bel⟩ => ?_
  subst he
  exact ⟨_, rfl, _, _, _, [], _, [], hW', trodAll_mk1 (shut_bool Try.underlying4 _), (trodAll_cons_mk (Below.trod laidOut (by kernel_rfl) (of_decide_eq_true (by kernel_rfl)) k0 bel lt0) (trodAll_cons_mk (shut_int Try.underlying3 w1) (trodAll_cons_mk (shut_int Try.underlying5 w2) (trodAll_cons_mk (shut_int Try.underlying5 w3) trodAll_mk0)))), rfl, bel.frame _, fun h => by cases h⟩

theorem over : Rows.ctOneByteRow.holds Try.pinned (OpenSpec.ofChange Rows.ctOneByteSpec) :=
  OpenClaim.holds_of_wide 7 Try.f7 rfl rfl rfl rfl rfl rfl rfl ⟨rfl, rfl, rfl, rfl, rfl⟩ rfl rfl rfl rfl rfl (by kernel_rfl) Try.func7 (by kernel_rfl)
    (of_decide_eq_true (by kernel_rfl)) (by unfold Func.isWrapper; first | (rw [if_pos (by decide +kernel)]; kernel_rfl) | (rw [if_neg (by decide +kernel)]; exact ⟨rfl, rfl⟩))
    (fun os started H enc _ => lifted os started H enc)

/-- the statement -/
theorem proved : Rows.CtOneByteSaid := over
#print axioms proved
end Go.Proofs.Yteedjiopfkfkfaa.ctOneByte
