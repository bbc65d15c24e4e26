/-
  The law StoreUndo of package dominolaw18 returns true for every two texts of bytes and every bit: what is swapped twice, or turned twice, is as it was; what is deleted is shown again by its last version.
-/
import Derived.Test.YtbippmbcgkicaaaRows
import Derived.WalkKit
import Derived.ProofKit
import Derived.OpenShut
import Derived.ShutString
import Derived.ChangeOld
import Derived.Below
import Derived.Test.YtbippmbcgkicaaaB6
namespace Go.Proofs.Ytbippmbcgkicaaa.storeUndo
open Go.ChangeShapes Go.WideShapes Go.ChangeAt Go.RowKit
open Go.ChangeMaps (open_string shut_string)
open Go.Shelf Go.Proofs.Ytbippmbcgkicaaa Mem Held Sl Go.Proofs.Ytbippmbcgkicaaa.Range Help Sto
theorem own : ownKnob Try.prog.godebug = none := by kernel_rfl
theorem laidOut : laidOutB Try.prog = true := by kernel_rfl
def IsRow (k : IntKind) (w : World) (a : Option Addr) (len cap : Nat) (zs : List Int) : Prop :=
  (a = none ∧ len = 0 ∧ cap = 0 ∧ zs = []) ∨
  ∃ x, a = some x ∧ len ≤ cap ∧ cap ≤ maxLen ∧ zs.length = cap ∧ (∀ i, i < zs.length → w.cell? (x.add i) = some (.int k (zs.getD i 0))) ∧ ∀ n ∈ zs, (Lit.int k n).wf = true
attribute [local irreducible] wpList wpListIn Calls
structure Ob (L : Lp) (p q : Bool × List Int) (V : List (List Int)) : Prop where
  x : shwP L [120] = p
  y : shwP L [121] = q
  v : verP L [120] = V
theorem ob_none : Ob [] (false, []) (false, []) [] := ⟨rfl, rfl, rfl⟩
theorem ob_putx {L : Lp} {p q : Bool × List Int} {V : List (List Int)} (h : Ob L p q V) (t : Int) (zs : List Int) : Ob (putP t [120] zs L) (true, zs) q (V ++ [zs]) :=
  ⟨by rw [shw_put, if_pos rfl], by rw [shw_put, if_neg (by decide), h.y], by rw [ver_put, if_pos rfl, h.v]⟩
theorem ob_puty {L : Lp} {p q : Bool × List Int} {V : List (List Int)} (h : Ob L p q V) (t : Int) (zs : List Int) : Ob (putP t [121] zs L) p (true, zs) V :=
  ⟨by rw [shw_put, if_neg (by decide), h.x], by rw [shw_put, if_pos rfl], by rw [ver_put, if_neg (by decide), h.v]⟩
theorem ob_key {L : Lp} {p q : Bool × List Int} {V : List (List Int)} (h : Ob L p q V) : (p.1 = true → [120] ∈ keysP L) ∧ (q.1 = true → [121] ∈ keysP L) :=
  ⟨fun e => shw_key (by rw [h.x, e]), fun e => shw_key (by rw [h.y, e])⟩
theorem ob_modx {L : Lp} {p q : Bool × List Int} {V : List (List Int)} (h : Ob L p q V) (hk : [120] ∈ keysP L) (t : Int) (v : Vp) : Ob (modP [120] (shwF t v) L) (v.is, v.zs) q V :=
  ⟨by rw [shw_mod hk, if_pos rfl], by rw [shw_mod hk, if_neg (by decide), h.y], by rw [ver_mod, h.v]⟩
theorem ob_mody {L : Lp} {p q : Bool × List Int} {V : List (List Int)} (h : Ob L p q V) (hk : [121] ∈ keysP L) (t : Int) (v : Vp) : Ob (modP [121] (shwF t v) L) p (v.is, v.zs) V :=
  ⟨by rw [shw_mod hk, if_neg (by decide), h.x], by rw [shw_mod hk, if_pos rfl], by rw [ver_mod, h.v]⟩
theorem ob_swap {L : Lp} {a b : List Int} {V : List (List Int)} (h : Ob L (true, a) (true, b) V) (t : Int) : (swapP t [120] [121] L).1 = true ∧ Ob (swapP t [120] [121] L).2 (true, b) (true, a) V := by
  have hk := ob_key h
  unfold swapP
  rw [h.x, h.y]
  exact ⟨rfl, ob_mody (ob_modx h (hk.1 rfl) t ⟨0, true, b⟩) (by rw [mod_keys]; exact hk.2 rfl) t ⟨0, true, a⟩⟩
theorem ob_swap' {L : Lp} {a b : List Int} {V : List (List Int)} (h : Ob L (true, a) (true, b) V) (t : Int) : (swapP t [121] [120] L).1 = true ∧ Ob (swapP t [121] [120] L).2 (true, b) (true, a) V := by
  have hk := ob_key h
  unfold swapP
  rw [h.x, h.y]
  exact ⟨rfl, ob_modx (ob_mody h (hk.2 rfl) t ⟨0, true, a⟩) (by rw [mod_keys]; exact hk.1 rfl) t ⟨0, true, b⟩⟩
theorem ob_flip {L : Lp} {a : List Int} {q : Bool × List Int} {V : List (List Int)} (h : Ob L (true, a) q V) (t : Int) {K : Nat} (hK : K / 8 < a.length) : (flipP t [120] (K : Int) L).1 = true ∧ Ob (flipP t [120] (K : Int) L).2 (true, flipZ a K) q V := by
  have hk := ob_key h
  unfold flipP
  rw [h.x, if_neg (by simp only; omega)]
  exact ⟨rfl, ob_modx h (hk.1 rfl) t ⟨0, true, flipZ a K⟩⟩
theorem ob_del {L : Lp} {a : List Int} {q : Bool × List Int} {V : List (List Int)} (h : Ob L (true, a) q V) (t : Int) : (delP t [120] L).1 = true ∧ Ob (delP t [120] L).2 (false, []) q V := by
  have hk := ob_key h
  unfold delP
  rw [h.x]
  exact ⟨rfl, ob_modx h (hk.1 rfl) t Vp.none⟩
theorem ob_replay {L : Lp} {p q : Bool × List Int} {a b : List Int} (h : Ob L p q [b, a]) (t : Int) : (replayP t [120] 1 L).1 = true ∧ Ob (replayP t [120] 1 L).2 (true, a) q [b, a] := by
  have hk : [120] ∈ keysP L := ver_key (m := 1) (zs := a) (by rw [h.v]; rfl)
  unfold replayP
  rw [if_neg (by omega), h.v]
  exact ⟨rfl, ob_modx h hk t ⟨0, true, a⟩⟩
theorem ob_replay2 {L : Lp} {p q : Bool × List Int} {a b : List Int} (h : Ob L p q [b, a]) (t : Int) : (replayP t [120] 2 L).1 = false ∧ Ob (replayP t [120] 2 L).2 p q [b, a] := by
  unfold replayP
  rw [if_neg (by omega), h.v]
  exact ⟨rfl, h⟩
theorem turn_turn {z : Int} (hz : (Lit.int .u8 z).wf = true) (m : Nat) : turnZ (turnZ z m) m = z := by
  have h1 := wf_u8 hz
  unfold turnZ
  have hc : 0 ≤ IntKind.u8.wrap (1 * 2 ^ m) ∧ IntKind.u8.wrap (1 * 2 ^ m) ≤ 255 := by rw [IntKind.wrap_u8]; omega
  generalize IntKind.u8.wrap (1 * 2 ^ m) = c at hc
  have e1 := u8_xor z c (by omega) (by omega) (by omega) (by omega)
  have hx : z.toNat ^^^ c.toNat < 2 ^ 8 := Nat.xor_lt_two_pow (by omega) (by omega)
  rw [e1, u8_xor _ c (by omega) (by omega) (by omega) (by omega), Int.toNat_natCast, Nat.xor_assoc, Nat.xor_self, Nat.xor_zero]
  omega
theorem flip_flip {zs : List Int} (hz : ∀ z ∈ zs, (Lit.int .u8 z).wf = true) {K : Nat} (hK : K / 8 < zs.length) : flipZ (flipZ zs K) K = zs := by
  unfold flipZ
  have e1 : (zs.set (K / 8) (turnZ (zs.getD (K / 8) 0) (K % 8))).getD (K / 8) 0 = turnZ (zs.getD (K / 8) 0) (K % 8) := by
    rw [List.getD_eq_getElem?_getD, List.getElem?_set, if_pos rfl, if_pos hK]
    rfl
  have e2 : zs.getD (K / 8) 0 = zs[K / 8] := by rw [List.getD_eq_getElem?_getD, List.getElem?_eq_getElem hK]; rfl
  rw [e1, turn_turn (by rw [e2]; exact hz _ (List.getElem_mem hK)), List.set_set, e2, List.set_getElem_self]
structure On (w : World) (ow : Nat → Nat) (w' : World) (s : Nat) (W : Int) (N : Nat) (es : List Ent) : Prop where
  si : SI ow w' s W N es
  new : ∀ b, ow b ≠ 0 → w.heap.size ≤ b
  bel : Below w.heap.size w w'
theorem On.go {w w' w'' : World} {ow ow' : Nat → Nat} {s N N' : Nat} {W W' : Int} {es es' : List Ent} (h : On w ow w' s W N es) (H : SI ow' w'' s W' N' es') (C : Chg ow ow' w' w'') : On w ow' w'' s W' N' es' :=
  ⟨H, chg_new C h.bel.size h.new, h.bel.trans (chg_below C h.bel.size h.new)⟩
theorem On.below {w w' w'' : World} {ow : Nat → Nat} {s N : Nat} {W : Int} {es : List Ent} (h : On w ow w' s W N es) (hb : Below w'.heap.size w' w'') : On w ow w'' s W N es :=
  ⟨h.si.below hb, h.new, h.bel.trans (hb.mono h.bel.size)⟩
theorem On.rd {w w' : World} {ow : Nat → Nat} {s N : Nat} {W : Int} {es : List Ent} (h : On w ow w' s W N es) {A : Option Addr} {n c : Nat} {zs : List Int} (hz : Ints w .u8 w.heap.size A n zs) (hn : n ≤ 1099511627776) : Rd (fun b => ow b ≤ 1) w' ⟨A, n, c, zs⟩ :=
  ⟨(hz.below h.bel).more h.bel.size, hn, fun b off p e h0 => by
    obtain ⟨b', off', e', hb, _⟩ := hz.2.2 h0
    have e : A = some ⟨b, off, p⟩ := e
    rw [e] at e'
    injection e' with e'
    injection e' with e1 _ _
    subst e1
    rcases Nat.eq_zero_or_pos (ow b) with h1 | h1
    · omega
    · have := h.new b (by omega); omega⟩
set_option maxRecDepth 100000 in
set_option maxHeartbeats 16000000 in
theorem start (A : Option Addr) (n c : Nat) (zs : List Int) (A' : Option Addr) (n' c' : Nat) (zs' : List Int) (bit : Int) (w : World) (h : Ints w .u8 w.heap.size A n zs) (h' : Ints w .u8 w.heap.size A' n' zs') (hn : n ≤ maxLen) (hn' : n' ≤ maxLen) (hbw : (Lit.int .i64 bit).wf = true) :
    Calls Try.prog 5 #[.slice A n c, .slice A' n' c', .int .i64 bit] w fun e w' => e = .returned (.bool true) ∧ Below w.heap.size w w' := by
  by_cases hbig : n = 0 ∨ 300 < n ∨ 300 < n'
  · have HN := Lib.hid (show ((n : Int) == 0) = decide (n = 0) by rw [Bool.eq_iff_iff]; simp)
    rcases Nat.eq_zero_or_pos n with h0 | h0
    · subst h0
      go_enter Try.func5, Try.ntmps5
      go_wp2_with fail
      refine (new_si w).mono ?_
      rintro r1 w1 ⟨s, ow1, rfl, _, b1, _⟩
      go_wp2_with fail
      refine (awake18_any w1).mono ?_
      rintro r2 w2 ⟨rfl, b2⟩
      go_wp2_with fail
      refine (awake18_any w2).mono ?_
      rintro r3 w3 ⟨rfl, b3⟩
      go_wp2_with fail
      go_ret
      have b12 := b1.trans (b2.mono b1.size)
      exact ⟨rfl, b12.trans (b3.mono b12.size)⟩
    · have hne : ((n : Int) == 0) = false := by simp; omega
      by_cases h3 : 300 < n
      · have h3' : (300 : Int) < (n : Int) := by omega
        clear HN hbig
        go_enter Try.func5, Try.ntmps5
        go_wp2_with fail
        refine (new_si w).mono ?_
        rintro r1 w1 ⟨s, ow1, rfl, _, b1, _⟩
        go_wp2_with fail
        refine (awake18_any w1).mono ?_
        rintro r2 w2 ⟨rfl, b2⟩
        go_wp2_with fail
        refine (awake18_any w2).mono ?_
        rintro r3 w3 ⟨rfl, b3⟩
        go_wp2_with fail
        go_ret
        have b12 := b1.trans (b2.mono b1.size)
        exact ⟨rfl, b12.trans (b3.mono b12.size)⟩
      · have h3' : ¬ (300 : Int) < (n : Int) := by omega
        have h4' : (300 : Int) < (n' : Int) := by omega
        clear HN hbig
        go_enter Try.func5, Try.ntmps5
        go_wp2_with fail
        refine (new_si w).mono ?_
        rintro r1 w1 ⟨s, ow1, rfl, _, b1, _⟩
        go_wp2_with fail
        refine (awake18_any w1).mono ?_
        rintro r2 w2 ⟨rfl, b2⟩
        go_wp2_with fail
        refine (awake18_any w2).mono ?_
        rintro r3 w3 ⟨rfl, b3⟩
        go_wp2_with fail
        go_ret
        have b12 := b1.trans (b2.mono b1.size)
        exact ⟨rfl, b12.trans (b3.mono b12.size)⟩
  · have hne : ((n : Int) == 0) = false := by simp; omega
    have h3' : ¬ (300 : Int) < (n : Int) := by omega
    have h4' : ¬ (300 : Int) < (n' : Int) := by omega
    have hbb := wf_i64 hbw
    obtain ⟨U, hU⟩ : ∃ U : Int, IntKind.u64.wrap bit = U := ⟨_, rfl⟩
    have hU0 : 0 ≤ U := by rw [← hU, IntKind.wrap_u64]; omega
    obtain ⟨K, hK⟩ : ∃ K : Nat, U.tmod ((8 * n : Nat) : Int) = (K : Int) := ⟨(U % ((8 * n : Nat) : Int)).toNat, by rw [Int.tmod_eq_emod_of_nonneg hU0]; have := Int.emod_nonneg U (show ((8 * n : Nat) : Int) ≠ 0 by omega); omega⟩
    have hKn : K < 8 * n := by
      rw [Int.tmod_eq_emod_of_nonneg hU0] at hK
      have := Int.emod_lt_of_pos U (show (0 : Int) < ((8 * n : Nat) : Int) by omega)
      omega
    have HU := Lib.hid hU
    have HK := Lib.hid hK
    have HM := Lib.hid (show IntKind.i64.wrap (8 * (n : Int)) = ((8 * n : Nat) : Int) by simp [IntKind.wrap_i64]; omega)
    have HM2 := Lib.hid (show IntKind.u64.wrap ((8 * n : Nat) : Int) = ((8 * n : Nat) : Int) by simp [IntKind.wrap_u64]; omega)
    have HK2 := Lib.hid (show IntKind.i64.wrap (K : Int) = (K : Int) by simp [IntKind.wrap_i64]; omega)
    have HM0 := Lib.hid (show ((8 * n : Nat) : Int) ≠ 0 by omega)
    have hlen := h.1
    have hK8 : K / 8 < zs.length := by omega
    have hKw : (Lit.int .i64 (K : Int)).wf = true := by simp [Lit.wf, IntKind.min, IntKind.max, IntKind.signed, IntKind.bits]; omega
    have HF := Lib.hid (flip_flip (zs := zs) h.2.1 hK8)
    have HL8 := Lib.hid (show K / 8 < zs.length ∧ K / 8 < (flipZ zs K).length by unfold flipZ; rw [List.length_set]; exact ⟨hK8, hK8⟩)
    have HB := Lib.hid (show n ≤ 1099511627776 ∧ n' ≤ 1099511627776 ∧ n ≤ 300 ∧ n' ≤ 300 by omega)
    generalize hMM : ((8 * n : Nat) : Int) = M8 at *
    clear hU hU0 hK hKn hbb hK8 hlen hbig hMM
    go_enter Try.func5, Try.ntmps5
    go_wp2_with fail
    refine (new_si w).mono ?_
    rintro r1 w1 ⟨s, ow1, rfl, H1, b1, n1⟩
    have G1 : On w ow1 w1 s 0 0 [] := ⟨H1, n1, b1⟩
    clear H1 b1 n1
    go_wp2_with fail
    refine (awake18_any w1).mono ?_
    rintro r2 w2 ⟨rfl, b2⟩
    have G2 := G1.below b2
    clear b2 G1
    go_wp2_with fail
    refine (put_si G2.si (k := [120]) (by decide) (x := ⟨A', n', c', zs'⟩) (G2.rd h' HB.out.2.1) (by omega)).mono ?_
    rintro r3 w3 ⟨rfl, ow3, es3, H3, C3, L3⟩
    have G3 := G2.go H3 C3
    have O3 := Lib.hid (ob_putx ob_none 1 zs')
    rw [show putP 1 [120] zs' [] = absL es3 from L3.symm] at O3
    clear L3 H3 C3 G2
    go_wp2_with fail
    refine (put_si G3.si (k := [120]) (by decide) (x := ⟨A, n, c, zs⟩) (G3.rd h HB.out.1) (by omega)).mono ?_
    rintro r4 w4 ⟨rfl, ow4, es4, H4, C4, L4⟩
    have G4 := G3.go H4 C4
    have O4 := Lib.hid (ob_putx O3.out (0 + 1 + 1) zs)
    rw [← L4] at O4
    clear L4 H4 C4 G3
    go_wp2_with fail
    refine (put_si G4.si (k := [121]) (by decide) (x := ⟨A', n', c', zs'⟩) (G4.rd h' HB.out.2.1) (by omega)).mono ?_
    rintro r5 w5 ⟨rfl, ow5, es5, H5, C5, L5⟩
    have G5 := G4.go H5 C5
    have O5 := Lib.hid (ob_puty O4.out (0 + 1 + 1 + 1) zs')
    rw [← L5] at O5
    clear L5 H5 C5 G4
    have e3 : (0 : Int) + 1 + 1 + 1 = 3 := rfl
    rw [e3] at G5
    clear e3
    simp only [List.nil_append, List.singleton_append] at O5
    go_wp2_with (first
      | (refine Held.wpList_run (w := w5) rfl (v := .int .u64 U) (Held.y_convert (S := fun _ => True) (a := bit) rfl rfl (by kernel_rfl) Try.underlying54 HU.out _ trivial) ?_)
      | (refine Held.wpList_run (w := w5) rfl (v := .int .i64 M8) (y_mulI (S := fun _ => True) 8 (n : Int) rfl rfl rfl HM.out _ trivial) ?_)
      | (refine Held.wpList_run (w := w5) rfl (v := .int .u64 M8) (Held.y_convert (S := fun _ => True) (a := M8) rfl rfl (by kernel_rfl) Try.underlying54 HM2.out _ trivial) ?_)
      | (refine Held.wpList_run (w := w5) rfl (v := .int .u64 (K : Int)) (y_remI (S := fun _ => True) U M8 rfl rfl rfl HM0.out HK.out _ trivial) ?_)
      | (refine Held.wpList_run (w := w5) rfl (v := .int .i64 (K : Int)) (Held.y_convert (S := fun _ => True) (a := (K : Int)) rfl rfl (by kernel_rfl) Try.underlying3 HK2.out _ trivial) ?_))
    have A6 := ob_swap O5.out 3
    refine (swap_si G5.si (k := [120]) (k' := [121]) (by decide) (by decide) (by omega)).mono ?_
    rw [A6.1]
    rintro r6 w6 ⟨rfl, ow6, es6, H6, C6, L6⟩
    have G6 := G5.go H6 C6
    have O6 := Lib.hid A6.2
    rw [← L6] at O6
    clear L6 H6 C6 G5 A6
    go_wp2_with fail
    have A7 := ob_swap' O6.out 3
    refine (swap_si G6.si (k := [121]) (k' := [120]) (by decide) (by decide) (by omega)).mono ?_
    rw [A7.1]
    rintro r7 w7 ⟨rfl, ow7, es7, H7, C7, L7⟩
    have G7 := G6.go H7 C7
    have O7 := Lib.hid A7.2
    rw [← L7] at O7
    clear L7 H7 C7 G6 A7
    go_wp2_with fail
    have A8 := ob_flip O7.out 3 HL8.out.1
    refine (flip_si G7.si (k := [120]) (by decide) hKw (by omega)).mono ?_
    rw [A8.1]
    rintro r8 w8 ⟨rfl, ow8, es8, H8, C8, L8⟩
    have G8 := G7.go H8 C8
    have O8 := Lib.hid A8.2
    rw [← L8] at O8
    clear L8 H8 C8 G7 A8
    go_wp2_with fail
    have A9 := ob_flip O8.out 3 HL8.out.2
    rw [HF.out] at A9
    refine (flip_si G8.si (k := [120]) (by decide) hKw (by omega)).mono ?_
    rw [A9.1]
    rintro r9 w9 ⟨rfl, ow9, es9, H9, C9, L9⟩
    have G9 := G8.go H9 C9
    have O9 := Lib.hid A9.2
    rw [← L9] at O9
    clear L9 H9 C9 G8 A9
    go_wp2_with fail
    have A10 := ob_del O9.out 3
    refine (delete_si G9.si (k := [120]) (by decide) (by omega)).mono ?_
    rw [A10.1]
    rintro r10 w10 ⟨rfl, ow10, es10, H10, C10, L10⟩
    have G10 := G9.go H10 C10
    have O10 := Lib.hid A10.2
    rw [← L10] at O10
    clear L10 H10 C10 G9 A10
    go_wp2_with fail
    have A11 := get_si G10.si (k := [120]) (by decide) (by omega)
    rw [O10.out.x] at A11
    refine A11.mono ?_
    rintro r11 w11 ⟨y11, rfl, _, _, _, b11⟩
    have G11 := G10.below b11
    clear A11 b11 G10
    go_wp2_with fail
    have A12 := ob_replay O10.out 3
    refine (replay_si G11.si (k := [120]) (by decide) (n := 1) (by omega)).mono ?_
    rw [A12.1]
    rintro r12 w12 ⟨rfl, ow12, es12, H12, C12, L12⟩
    have G12 := G11.go H12 C12
    have O12 := Lib.hid A12.2
    rw [← L12] at O12
    clear L12 H12 C12 G11 A12
    go_wp2_with fail
    have A13 := ob_replay2 O12.out 3
    refine (replay_si G12.si (k := [120]) (by decide) (n := 2) (by omega)).mono ?_
    rw [A13.1]
    rintro r13 w13 ⟨rfl, ow13, es13, H13, C13, L13⟩
    have G13 := G12.go H13 C13
    have O13 := Lib.hid A13.2
    rw [← L13] at O13
    clear L13 H13 C13 G12 A13
    go_wp2_with fail
    have A14 := versions_si G13.si (k := [120]) (by decide)
    rw [O13.out.v] at A14
    refine A14.mono ?_
    rintro r14 w14 ⟨rfl, rfl⟩
    clear A14
    go_wp2_with fail
    have A15 := get_si G13.si (k := [120]) (by decide) (by omega)
    rw [O13.out.x] at A15
    refine A15.mono ?_
    rintro r15 w15 ⟨⟨A5, n5, c5, z5⟩, rfl, hz5, _, hr5, b15⟩
    obtain rfl : z5 = zs := hz5
    have G15 := G13.below b15
    clear A15 b15 G13
    go_wp2_with fail
    have A16 := get_si G15.si (k := [121]) (by decide) (by omega)
    rw [O13.out.y] at A16
    refine A16.mono ?_
    rintro r16 w16 ⟨⟨A6, n6, c6, z6⟩, rfl, hz6, _, hr6, b16⟩
    obtain rfl : z6 = zs' := hz6
    have G16 := G15.below b16
    have hi5 := hr5.1.below b16
    have hi6 := hr6.1
    clear A16 hr5 hr6 b16 G15
    simp only at hi5 hi6
    go_wp2_with fail
    refine (Help.bytes_any _ _ _ _ _ _ _ _ _ _ w16 hi5 (h.below G16.bel)).mono ?_
    rintro r17 w17 ⟨rfl, rfl⟩
    rw [show decide (z5 = z5) = true from decide_eq_true rfl]
    go_wp2_with fail
    refine (Help.bytes_any _ _ _ _ _ _ _ _ _ _ w16 hi6 (h'.below G16.bel)).mono ?_
    rintro r17 w17 ⟨rfl, rfl⟩
    rw [show decide (z6 = z6) = true from decide_eq_true rfl]
    go_wp2_with fail
    go_ret
    exact ⟨rfl, G16.bel⟩
theorem walk (a0 : Option Addr) (len0 cap0 : Nat) (z0 : List Int) (a1 : Option Addr) (len1 cap1 : Nat) (z1 : List Int) (a2 : Int) (w : World) (w0 : IsRow .u8 w a0 len0 cap0 z0) (w1 : IsRow .u8 w a1 len1 cap1 z1) (w2 : (Lit.int .i64 a2).wf = true) :
    Calls Try.prog 5 #[.slice a0 len0 cap0, .slice a1 len1 cap1, .int .i64 a2] w fun e w' => e = .returned (.bool true) ∧ Below w.heap.size w w' := by
  exact (fun h0 h1 => start a0 len0 cap0 (z0.take len0) a1 len1 cap1 (z1.take len1) a2 w h0.1 h1.1 (Nat.le_trans h0.2.1 h0.2.2) (Nat.le_trans h1.2.1 h1.2.2) w2) (Mem.ints_of_row w0) (Mem.ints_of_row w1)
set_option maxRecDepth 100000 in
theorem lifted (os : Os) (started : os.Started) (H : Type) (enc : TypeId × Value → H) :
    ReturnsInHanded {} Try.checked os 5 .any (Rows.storeUndoSpec.pre6 enc Try.prog Try.f5 Rows.storeUndoRow.domain false) (Rows.storeUndoSpec.post enc Try.prog Try.f5 false true false false) := by
  refine returnsInHanded_of_change (C := Try.checked) own started (by kernel_rfl) Try.func5
    (ChangeSpec.witness6 (enc := enc) (C := Try.checked) false ⟨#[], #[.slice none 0 0, .slice none 0 0, .int .i64 0], []⟩ 8 (by kernel_rfl) (by kernel_rfl) (by kernel_rfl) (by kernel_rfl)) ?_
  intro W base args ds gs before hval0 hW hcnd _
  have hval : ∀ (j : Nat) t v, Try.f5.params[j]? = some t → args[j]? = some v → Value.okWide Try.prog W .any base t v := hval0
  have hW' := hW
  obtain ⟨p, q, hA0, hV, rfl, hfz, hnd⟩ := hW
  have hA : DataW.TrodAll enc Try.prog W 0 (fun _ => true) true Try.f5.params.toList args.toList ds p := hA0
  rw [Try.params5] at hA hval
  obtain ⟨v0, vs0, d0, ds0, p0, q0, hargs, rfl, rfl, h0, r0⟩ := trodAll_cons hA
  obtain ⟨v1, vs1, d1, ds1, p1, q1, rfl, rfl, rfl, h1, r1⟩ := trodAll_cons r0
  obtain ⟨v2, vs2, d2, ds2, p2, q2, rfl, rfl, rfl, h2, r2⟩ := trodAll_cons r1
  obtain ⟨rfl, rfl, rfl⟩ := trodAll_nil r2
  obtain rfl : args = #[v0, v1, v2] := by cases args; simp_all
  obtain ⟨rfl, rfl⟩ := trodVars_none hV
  obtain ⟨a0, len0, cap0, rfl⟩ := okWide_slice Try.underlying31 (hval 0 31 v0 rfl rfl)
  have k0 := h0
  have lt0 : ∀ x ∈ p0, x.block < W.heap.size := by obtain ⟨m, hm⟩ := k0; exact DataW.trod_lt m _ _ _ hm
  obtain ⟨z0, w0⟩ : ∃ zs, IsRow .u8 W a0 len0 cap0 zs := by
    obtain ⟨fuel, hf⟩ := h0
    rcases open_ints Try.underlying31 Try.underlying5 (by kernel_rfl) hf with ⟨hcs, _⟩ | ⟨x, l, c, zs, hcs, _, hl, hm, hz, _, hcell, hwz⟩
    · simp [Value.cells] at hcs
      obtain ⟨rfl, rfl, rfl⟩ := hcs
      exact ⟨[], .inl ⟨rfl, rfl, rfl, rfl⟩⟩
    · simp [Value.cells] at hcs
      obtain ⟨rfl, rfl, rfl⟩ := hcs
      exact ⟨zs, .inr ⟨_, rfl, hl, hm, by simpa using hz, hcell, hwz⟩⟩
  obtain ⟨a1, len1, cap1, rfl⟩ := okWide_slice Try.underlying31 (hval 1 31 v1 rfl rfl)
  have k1 := h1
  have lt1 : ∀ x ∈ p1, x.block < W.heap.size := by obtain ⟨m, hm⟩ := k1; exact DataW.trod_lt m _ _ _ hm
  obtain ⟨z1, w1⟩ : ∃ zs, IsRow .u8 W a1 len1 cap1 zs := by
    obtain ⟨fuel, hf⟩ := h1
    rcases open_ints Try.underlying31 Try.underlying5 (by kernel_rfl) hf with ⟨hcs, _⟩ | ⟨x, l, c, zs, hcs, _, hl, hm, hz, _, hcell, hwz⟩
    · simp [Value.cells] at hcs
      obtain ⟨rfl, rfl, rfl⟩ := hcs
      exact ⟨[], .inl ⟨rfl, rfl, rfl, rfl⟩⟩
    · simp [Value.cells] at hcs
      obtain ⟨rfl, rfl, rfl⟩ := hcs
      exact ⟨zs, .inr ⟨_, rfl, hl, hm, by simpa using hz, hcell, hwz⟩⟩
  obtain ⟨a2, rfl, rfl, rfl, w2⟩ := open_int Try.underlying3 (hval 2 3 v2 rfl rfl) h2
  clear hA0 hval0
  refine (walk a0 len0 cap0 z0 a1 len1 cap1 z1 a2 W w0 w1 w2).mono fun e W' ⟨he, bel⟩ => ?_
  subst he
  exact ⟨_, rfl, _, _, _, [], _, [], hW', trodAll_mk1 (shut_bool Try.underlying4 _), (trodAll_cons_mk (Below.trod laidOut (by kernel_rfl) (of_decide_eq_true (by kernel_rfl)) k0 bel lt0) (trodAll_cons_mk (Below.trod laidOut (by kernel_rfl) (of_decide_eq_true (by kernel_rfl)) k1 bel lt1) (trodAll_cons_mk (shut_int Try.underlying3 w2) trodAll_mk0))), rfl, bel.frame _, fun h => by cases h⟩
theorem over : Rows.storeUndoRow.holds Try.pinned (OpenSpec.ofChange Rows.storeUndoSpec) :=
  OpenClaim.holds_of_wide 5 Try.f5 rfl rfl rfl rfl rfl rfl rfl ⟨rfl, rfl, rfl, rfl, rfl⟩ rfl rfl rfl rfl rfl (by kernel_rfl) Try.func5 (by kernel_rfl)
    (of_decide_eq_true (by kernel_rfl)) (by unfold Func.isWrapper; first | (rw [if_pos (by decide +kernel)]; kernel_rfl) | (rw [if_neg (by decide +kernel)]; exact ⟨rfl, rfl⟩))
    (fun os started H enc _ => lifted os started H enc)
theorem proved : Rows.StoreUndoSaid :=
  over
#print axioms proved
end Go.Proofs.Ytbippmbcgkicaaa.storeUndo
