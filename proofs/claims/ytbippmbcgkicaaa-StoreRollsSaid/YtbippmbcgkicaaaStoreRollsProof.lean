/-
  The law StoreRolls of package dominolaw18 returns true for every list of numbers and every number: rolled back it shows what it showed then, whatever was put since; what was put stays a version.
-/
import Derived.Test.YtbippmbcgkicaaaRows
import Derived.WalkKit
import Derived.ProofKit
import Derived.OpenShut
import Derived.ShutString
import Derived.ChangeOld
import Derived.Below
import Derived.Test.YtbippmbcgkicaaaB7
namespace Go.Proofs.Ytbippmbcgkicaaa.storeRolls
open Go.ChangeShapes Go.WideShapes Go.ChangeAt Go.RowKit
open Go.ChangeMaps (open_string shut_string)
open Go.Shelf Go.Proofs.Ytbippmbcgkicaaa Mem Held Sl Go.Proofs.Ytbippmbcgkicaaa.Range Help Sto
theorem own : ownKnob Try.prog.godebug = none := by kernel_rfl
theorem laidOut : laidOutB Try.prog = true := by kernel_rfl
def IsRow (k : IntKind) (w : World) (a : Option Addr) (len cap : Nat) (zs : List Int) : Prop :=
  (a = none ∧ len = 0 ∧ cap = 0 ∧ zs = []) ∨
  ∃ x, a = some x ∧ len ≤ cap ∧ cap ≤ maxLen ∧ zs.length = cap ∧ (∀ i, i < zs.length → w.cell? (x.add i) = some (.int k (zs.getD i 0))) ∧ ∀ n ∈ zs, (Lit.int k n).wf = true
attribute [local irreducible] wpList wpListIn Calls
structure On (w : World) (ow : Nat → Nat) (w' : World) (s : Nat) (W : Int) (N : Nat) (es : List Ent) : Prop where
  si : SI ow w' s W N es
  new : ∀ b, ow b ≠ 0 → w.heap.size ≤ b
  bel : Below w.heap.size w w'
theorem On.go {w w' w'' : World} {ow ow' : Nat → Nat} {s N N' : Nat} {W W' : Int} {es es' : List Ent} (h : On w ow w' s W N es) (H : SI ow' w'' s W' N' es') (C : Chg ow ow' w' w'') : On w ow' w'' s W' N' es' :=
  ⟨H, chg_new C h.bel.size h.new, h.bel.trans (chg_below C h.bel.size h.new)⟩
theorem On.below {w w' w'' : World} {ow : Nat → Nat} {s N : Nat} {W : Int} {es : List Ent} (h : On w ow w' s W N es) (hb : Below w'.heap.size w' w'') : On w ow w'' s W N es :=
  ⟨h.si.below hb, h.new, h.bel.trans (hb.mono h.bel.size)⟩
theorem On.rd {w w' : World} {ow : Nat → Nat} {s N : Nat} {W : Int} {es : List Ent} (h : On w ow w' s W N es) {A : Option Addr} {n c : Nat} {zs : List Int} (hz : Ints w .u8 w.heap.size A n zs) (hn : n ≤ 1099511627776) : Rd (fun b => ow b ≤ 1) w' ⟨A, n, c, zs⟩ :=
  ⟨(hz.below h.bel).more h.bel.size, hn, fun b off p e h0 => by
    obtain ⟨b', off', e', hb, _⟩ := hz.2.2 h0
    have e : A = some ⟨b, off, p⟩ := e
    rw [e] at e'
    injection e' with e'
    injection e' with e1 _ _
    subst e1
    rcases Nat.eq_zero_or_pos (ow b) with h1 | h1
    · omega
    · have := h.new b (by omega); omega⟩
def Rr (w : World) (f : Nat → Nm) (J s m1 m2 i : Nat) (wr : World) : Prop :=
  ∃ ow es M1 M2, On w ow wr s (i : Int) (3 * i) es ∧ Rl f i (absL es) ∧ (MpS (eI .u8) Try.prog 9 wr m1 i M1 ∧ MwN f (min i J) M1) ∧ (MpS (eI .i64) Try.prog 9 wr m2 i M2 ∧ McN f i M2) ∧ ow m1 = 0 ∧ ow m2 = 0
def Rq (w : World) (f : Nat → Nm) (J n s m1 m2 : Nat) (wr : World) : Prop :=
  ∃ ow es M1 M2 N, On w ow wr s (n : Int) N es ∧ N ≤ 1000 ∧ (∀ x, shwP (absL es) x = shO (lastN f J x)) ∧ (∀ x, (verP (absL es) x).length = cntN f n x) ∧ (MpS (eI .u8) Try.prog 9 wr m1 n M1 ∧ MwN f J M1) ∧ (MpS (eI .i64) Try.prog 9 wr m2 n M2 ∧ McN f n M2) ∧ ow m1 = 0 ∧ ow m2 = 0
theorem On.put {w w' w'' : World} {ow : Nat → Nat} {s N m : Nat} {W : Int} {es : List Ent} (h : On w ow w' s W N es) (hm : ow m = 0) (hw : w.heap.size ≤ m) (g : w'.grownBy w'' (some m)) : On w ow w'' s W N es :=
  ⟨h.si.keep (KeepsP.of_grown g (fun r e hr => by injection e with e; subst e; exact hr hm)), h.new, h.bel.grown g h.bel.size (fun r e => by injection e with e; subst e; exact hw)⟩
theorem mp_go {β : Type} {E : EK β} {P : Program} {T : TypeId} {w w' : World} {ow ow' : Nat → Nat} {m n : Nat} {M : List (Nm × β)} (h : MpS E P T w m n M) (C : Chg ow ow' w w') (hm : ow m = 0) : MpS E P T w' m n M ∧ ow' m = 0 :=
  ⟨h.same fun o ho => C.keep.block m o (by show ow m ≤ 1; omega) ho, (C.same m h.lt).trans hm⟩
theorem rolls_out {t n : Int} {L : Lp} (h : n < 0 ∨ t < n) : rollsP t n L = (false, L) := if_pos h
theorem nm_len (r : Nat) : (nmR r).length ≤ maxLen := by simp [nmR, maxLen]
theorem nm_text {r : Nat} (h : r < 4) : Value.string (strOfNums [((97 + r : Nat) : Int)]) = encStr (nmR r) := by
  have : r = 0 ∨ r = 1 ∨ r = 2 ∨ r = 3 := by omega
  rcases this with rfl | rfl | rfl | rfl <;> rfl
theorem y_neb {P : Program} {S : World → Prop} {ρ : Operand → Value} {o : Oper} {t ty : TypeId} {x y : Operand} {a b r : Bool} (ho : o.op = .binOp .neq t x y ty) (hx : ρ x = .bool a) (hy : ρ y = .bool b) (hr : (!(a == b)) = r) (ht : P.underlying t = some .bool) :
    ∀ w, S w → (execOp ρ o).run P w = .ok (.value (.bool r)) w := y_bin ho hx hy (fun w => by simp [eqGuard]) (fun w => by subst hr; simp [binOp, run_equal_bool _ t a b ht])
theorem text_one {ρ : Operand → Value} {o : Oper} {x : Operand} (g : Nat) (R : Int) (k : Nm) (v1 : World) (q : Row v1 g 5 .u8 [R]) (ho : o.op = .convert 31 9 x) (hx : ρ x = .slice (some ⟨g, 0, none⟩) 1 1) (h : Value.string (strOfNums [R]) = encStr k) :
   (execOp ρ o).run Try.prog v1 = .ok (.value (encStr k)) v1 := by
  rw [← h]; exact y_text (S := fun W => W = v1) (zs := [R]) ho hx Try.underlying31 Try.underlying5 Try.underlying9 (fun W hW => by rw [hW]; exact q.ints (n := 1) (by simp)) _ rfl
theorem build_one {ops : Array Oper} {rest : List Oper} {o : Oper} {a : Act} {w : World} {Q : Exit → Act → World → Prop} (R : Int) {x : Operand} (hgd : o.guard = none) (ho : o.op = .buildSlice 31 1 #[(0, x)]) (hx : a.eval x = .int .u8 R) (hR : (Lit.int .u8 R).wf = true)
    (h : ∀ w', Row w' w.heap.size 5 .u8 [R] → w.grownBy w' none → Hid (w'.heap.size = w.heap.size + 1) → wpList Try.prog ops Q rest (a.put o.dst (.slice (some ⟨w.heap.size, 0, none⟩) 1 1)) w') : wpList Try.prog ops Q (o :: rest) a w :=
  wpList_build_row1 (w := w) hgd 31 5 1 _ ho Try.underlying31 .u8 1 Help.info_u8 [R] rfl (by simp [hx]) (fun z hz => by rw [List.mem_singleton.1 hz]; exact hR) (by omega) (by omega) h
set_option maxRecDepth 100000 in
set_option maxHeartbeats 32000000 in
theorem start (A : Option Addr) (n c : Nat) (zs : List Int) (back : Int) (w : World) (h : Ints w .i64 w.heap.size A n zs) (hbw : (Lit.int .i64 back).wf = true) :
    Calls Try.prog 6 #[.slice A n c, .int .i64 back] w fun e w' => e = .returned (.bool true) ∧ Below w.heap.size w w' := by
  by_cases hbig : 40 < n
  · have h3' : (40 : Int) < (n : Int) := by omega
    clear hbig
    go_enter Try.func6, Try.ntmps6
    go_wp2_with fail
    refine (new_si w).mono ?_
    rintro r1 w1 ⟨s, ow1, rfl, _, b1, _⟩
    go_wp2_with fail
    refine (awake18_any w1).mono ?_
    rintro r2 w2 ⟨rfl, b2⟩
    go_wp2_with fail
    refine (awake18_any w2).mono ?_
    rintro r3 w3 ⟨rfl, b3⟩
    go_wp2_with fail
    go_ret
    have b12 := b1.trans (b2.mono b1.size)
    exact ⟨rfl, b12.trans (b3.mono b12.size)⟩
  · have h3' : ¬ (40 : Int) < (n : Int) := by omega
    have hbb := Mem.wf_i64 hbw
    obtain ⟨U, hU⟩ : ∃ U : Int, IntKind.u64.wrap back = U := ⟨_, rfl⟩
    have hU0 : 0 ≤ U := by rw [← hU, IntKind.wrap_u64]; omega
    obtain ⟨K, hK⟩ : ∃ K : Nat, U.tmod ((n + 1 : Nat) : Int) = (K : Int) := ⟨(U % ((n + 1 : Nat) : Int)).toNat, by rw [Int.tmod_eq_emod_of_nonneg hU0]; have := Int.emod_nonneg U (show ((n + 1 : Nat) : Int) ≠ 0 by omega); omega⟩
    have hKn : K < n + 1 := by
      rw [Int.tmod_eq_emod_of_nonneg hU0] at hK
      have := Int.emod_lt_of_pos U (show (0 : Int) < ((n + 1 : Nat) : Int) by omega)
      omega
    have HU := Lib.hid hU
    have HK := Lib.hid hK
    have HN1 := Lib.hid (show IntKind.i64.wrap ((n : Int) + 1) = ((n + 1 : Nat) : Int) by simp [IntKind.wrap_i64]; omega)
    have HN2 := Lib.hid (show IntKind.u64.wrap ((n + 1 : Nat) : Int) = ((n + 1 : Nat) : Int) by simp [IntKind.wrap_u64]; omega)
    have HK2 := Lib.hid (show IntKind.i64.wrap (K : Int) = (K : Int) by simp [IntKind.wrap_i64]; omega)
    have HN0 := Lib.hid (show ((n + 1 : Nat) : Int) ≠ 0 by omega)
    have HJ := Lib.hid (show IntKind.i64.wrap ((n : Int) - (K : Int)) = ((n - K : Nat) : Int) by simp [IntKind.wrap_i64]; omega)
    have HNJ := Lib.hid (show ((n + 1 : Nat) : Int) = (n : Int) + 1 by omega)
    obtain ⟨f, hf⟩ : ∃ f : Nat → Nm, f = fun i => nmR ((zs.getD i 0) % 4).toNat := ⟨_, rfl⟩
    have HF := Lib.hid hf
    have HB := Lib.hid (And.intro hKn (show n ≤ 40 by omega))
    have HH := Lib.hid h
    generalize hMM : ((n + 1 : Nat) : Int) = N1 at HK HN1 HN2 HN0 HNJ
    generalize hJJ : ((n - K : Nat) : Int) = J at HJ
    have HJJ := Lib.hid hJJ
    clear hU hU0 hK hKn hbb hbig hMM hJJ hf h
    go_enter Try.func6, Try.ntmps6
    go_wp2_with fail
    refine (new_si w).mono ?_
    rintro r1 u1 ⟨s, ow1, rfl, H1, b1, n1⟩
    have G1 : On w ow1 u1 s 0 0 [] := ⟨H1, n1, b1⟩
    clear H1 b1 n1
    go_wp2_with fail
    refine (awake18_any u1).mono ?_
    rintro r2 u2 ⟨rfl, b2⟩
    have G2 := G1.below b2
    clear b2 G1
    go_wp2_with (first
      | (refine Held.wpList_run (w := u2) rfl (v := .int .u64 U) (Held.y_convert (S := fun _ => True) (a := back) rfl rfl (by kernel_rfl) Try.underlying54 HU.out _ trivial) ?_; simp only [Act.put, Z1, Z2, Z3])
      | (refine Held.wpList_run (w := u2) rfl (v := .int .i64 N1) (y_addI (S := fun _ => True) (n : Int) 1 rfl rfl rfl HN1.out _ trivial) ?_; simp only [Act.put, Z1, Z2, Z3])
      | (refine Held.wpList_run (w := u2) rfl (v := .int .u64 N1) (Held.y_convert (S := fun _ => True) (a := N1) rfl rfl (by kernel_rfl) Try.underlying54 HN2.out _ trivial) ?_; simp only [Act.put, Z1, Z2, Z3])
      | (refine Held.wpList_run (w := u2) rfl (v := .int .u64 (K : Int)) (y_remI (S := fun _ => True) U N1 rfl rfl rfl HN0.out HK.out _ trivial) ?_; simp only [Act.put, Z1, Z2, Z3])
      | (refine Held.wpList_run (w := u2) rfl (v := .int .i64 (K : Int)) (Held.y_convert (S := fun _ => True) (a := (K : Int)) rfl rfl (by kernel_rfl) Try.underlying3 HK2.out _ trivial) ?_; simp only [Act.put, Z1, Z2, Z3])
      | (refine wpList_makeMap_S (w := u2) (eI .u8) rfl 58 9 rfl ?_; intro u3 hM1 g3 z3; simp only [Act.put, Z1, Z2, Z3])
      | (refine wpList_makeMap_S (w := u3) (eI .i64) rfl 59 9 rfl ?_; intro u4 hM2 g4 z4; have hM1 := hM1.kept g4 (by simp); simp only [Act.put, Z1, Z2, Z3]))
    have G4 := (G2.below ((Below.refl _ _).grown g3 (Nat.le_refl _) (by simp))).below ((Below.refl _ _).grown g4 (Nat.le_refl _) (by simp))
    have hm1 : ow1 u2.heap.size = 0 := G2.si.sto.free (Nat.le_refl _)
    have hm2 : ow1 u3.heap.size = 0 := G2.si.sto.free g3.size
    have k1 : w.heap.size ≤ u2.heap.size := G2.bel.size
    have k12 : u2.heap.size < u3.heap.size := by have := z3.out; omega
    have R0 : Rr w f (n - K) s u2.heap.size u3.heap.size 0 u4 := ⟨ow1, [], [], [], G4, rl_zero f, ⟨hM1, by rw [Nat.zero_min]; exact mw_zero f⟩, ⟨hM2, mc_zero f⟩, hm1, hm2⟩
    obtain ⟨m1, hmm1⟩ : ∃ m1, u2.heap.size = m1 := ⟨_, rfl⟩
    obtain ⟨m2, hmm2⟩ : ∃ m2, u3.heap.size = m2 := ⟨_, rfl⟩
    rw [hmm1, hmm2] at R0 k12
    rw [hmm1] at k1
    rw [hmm1, hmm2]
    clear g3 z3 g4 z4 hM1 hM2 G2 G4 hm1 hm2 hmm1 hmm2
    go_loopw [9] (fun i wr => ∃ q : Nat, q ≤ n ∧ i = .int .i64 q ∧ Rr w f (n - K) s m1 m2 q wr) (fun i _ => n - (intOf i).toNat)
    case atStart => exact ⟨0, Nat.zero_le _, rfl, R0⟩
    case round =>
      clear R0
      obtain ⟨q, hq, rfl, ow, es, M1, M2, G, hL, ⟨hM1, hW1⟩, ⟨hM2, hC2⟩, ho1, ho2⟩ := hrel
      by_cases hlt : q < n
      · obtain ⟨hn40, hK40⟩ := HB.out
        have hh := HH.out
        obtain ⟨b, off, rfl, hbl, hcells⟩ := hh.2.2 (by omega)
        have hcell : wr.cell? ⟨b, off + q * 1, none⟩ = some (.int .i64 (zs.getD q 0)) := (G.bel.cell hbl).trans (by rw [Nat.mul_one]; exact hcells q hlt)
        obtain ⟨z, hz⟩ : ∃ z, zs.getD q 0 = z := ⟨_, rfl⟩
        rw [hz] at hcell
        obtain ⟨r, hr⟩ : ∃ r : Nat, (z % 4).toNat = r := ⟨_, rfl⟩
        have hr4 : r < 4 := by omega
        obtain ⟨k, hk⟩ : ∃ k, nmR r = k := ⟨_, rfl⟩
        have hfk : f q = k := by rw [HF.out]; show nmR (zs.getD q 0 % 4).toNat = k; rw [hz, hr, hk]
        obtain ⟨uz, huz⟩ : ∃ uz : Int, IntKind.u64.wrap z = uz := ⟨_, rfl⟩
        have hum : uz.tmod 4 = (r : Int) := by
          rw [← huz, IntKind.wrap_u64, Int.tmod_eq_emod_of_nonneg (by omega)]
          omega
        obtain ⟨R, hR⟩ : ∃ R : Int, ((97 + r : Nat) : Int) = R := ⟨_, rfl⟩
        have HZ := Lib.hid (And.intro huz (And.intro hum (And.intro (show IntKind.u64.wrap (97 + (r : Int)) = R by rw [← hR, IntKind.wrap_u64]; omega) (And.intro (show IntKind.u8.wrap R = R by rw [← hR, IntKind.wrap_u8]; omega) (And.intro (show (Lit.int .u8 R).wf = true by rw [← hR]; simp [Lit.wf, IntKind.min, IntKind.max, IntKind.signed, IntKind.bits]; omega) (show Value.string (strOfNums [R]) = encStr k by rw [← hR, ← hk]; exact nm_text hr4))))))
        have HQ := Lib.hid (And.intro (show IntKind.u8.wrap (q : Int) = (q : Int) by rw [IntKind.wrap_u8]; omega) (show (Lit.int .u8 (q : Int)).wf = true by simp [Lit.wf, IntKind.min, IntKind.max, IntKind.signed, IntKind.bits]; omega))
        have HK8 := Lib.hid (show k.length ≤ maxLen by rw [← hk]; exact nm_len r)
        have HC := Lib.hid (show (Value.int .i64 (lookS (0 : Int) M2 k)) = .int .i64 (cntN f q k : Int) by rw [hC2 k])
        obtain ⟨CN, hCN⟩ : ∃ CN : Int, (cntN f q k : Int) + 1 = CN := ⟨_, rfl⟩
        have HCN := Lib.hid (show IntKind.i64.wrap ((cntN f q k : Int) + 1) = CN by rw [hCN, IntKind.wrap_i64]; have := cntN_le (f := f) (x := k) (i := q); omega)
        have HFK := Lib.hid hfk
        have HCNE := Lib.hid hCN
        have hltI : (q : Int) < (n : Int) := by omega
        have HL := Lib.hid hL
        have HW := Lib.hid hW1
        have HC2 := Lib.hid hC2
        clear hz hr hr4 hk hfk huz hum hR hCN hcells hh hL hW1 hC2 hbl
        go_wp2_with (first
          | (refine Held.wpList_run (w := wr) rfl (v := .pointer (some ⟨b, off + q * 1, none⟩)) (Held.y_addr (S := fun _ => True) rfl rfl rfl (Rs.run_addr_of (P := Try.prog) 57 3 b off n c q 1 .i64 Try.underlying57 (by kernel_rfl) hlt) _ trivial) ?_; simp only [Act.put, Z1, Z2, Z3])
          | (refine Held.wpList_run (w := wr) rfl (v := .int .i64 z) (Held.y_load (S := fun W => W = wr) rfl rfl (by kernel_rfl) (fun W hW => hW ▸ hcell) _ rfl) ?_; simp only [Act.put, Z1, Z2, Z3])
          | (refine Held.wpList_run (w := wr) rfl (v := .int .u64 uz) (Held.y_convert (S := fun _ => True) (a := z) rfl rfl (by kernel_rfl) Try.underlying54 HZ.out.1 _ trivial) ?_; simp only [Act.put, Z1, Z2, Z3])
          | (refine Held.wpList_run (w := wr) rfl (v := .int .u64 (r : Int)) (y_remI (S := fun _ => True) uz 4 rfl rfl rfl (by decide) HZ.out.2.1 _ trivial) ?_; simp only [Act.put, Z1, Z2, Z3])
          | (refine Held.wpList_run (w := wr) rfl (v := .int .u64 R) (y_addI (S := fun _ => True) 97 (r : Int) rfl rfl rfl HZ.out.2.2.1 _ trivial) ?_; simp only [Act.put, Z1, Z2, Z3])
          | (refine Held.wpList_run (w := wr) rfl (v := .int .u8 R) (Held.y_convert (S := fun _ => True) (a := R) rfl rfl (by kernel_rfl) Try.underlying5 HZ.out.2.2.2.1 _ trivial) ?_; simp only [Act.put, Z1, Z2, Z3])
          | (refine build_one (w := wr) R rfl rfl rfl HZ.out.2.2.2.2.1 ?_; intro v1 qv1 gv1 zv1; simp only [Act.put, Z1, Z2, Z3])
          | (refine Held.wpList_run (w := v1) rfl (v := encStr k) (text_one _ R k v1 qv1 rfl rfl HZ.out.2.2.2.2.2) ?_; simp only [Act.put, Z1, Z2, Z3])
          | (refine Held.wpList_run (w := v1) rfl (v := .int .u8 (q : Int)) (Held.y_convert (S := fun _ => True) (a := (q : Int)) rfl rfl (by kernel_rfl) Try.underlying5 HQ.out.1 _ trivial) ?_; simp only [Act.put, Z1, Z2, Z3])
          | (refine build_one (w := v1) (q : Int) rfl rfl rfl HQ.out.2 ?_; intro v2 qv2 gv2 zv2; simp only [Act.put, Z1, Z2, Z3]))
        have b02 : Below wr.heap.size wr v2 := ((Below.refl _ _).grown gv1 (Nat.le_refl _) (by simp)).grown gv2 gv1.size (by simp)
        have G2 := G.below b02
        have hM1 := hM1.below b02
        have hM2 := hM2.below b02
        have hrd : Rd (fun b => ow b ≤ 1) v2 (⟨some ⟨v1.heap.size, 0, none⟩, 1, 1, [(q : Int)]⟩ : Bs) := ⟨qv2.ints (n := 1) (by simp), by show (1 : Nat) ≤ 1099511627776; omega, fun b off p e _ => by injection e with e; injection e with e; rw [← e, G.si.sto.free gv1.size]; omega⟩
        clear qv1 qv2 gv1 gv2 zv1 zv2 b02 G hcell
        refine (put_si G2.si (k := k) HK8.out hrd (by omega)).mono ?_
        rintro r3 v3 ⟨rfl, ow3, es3, H3, C3, L3⟩
        obtain ⟨hM1, ho1⟩ := mp_go hM1 C3 ho1
        obtain ⟨hM2, ho2⟩ := mp_go hM2 C3 ho2
        have G3 := G2.go H3 C3
        have hne : m1 ≠ m2 := by omega
        have HL3 := Lib.hid (show Rl f (q + 1) (absL es3) by rw [L3, ← HFK.out]; exact rl_put HL.out)
        clear H3 C3 L3 hrd G2
        by_cases hj : q < n - K
        · have hjI : (q : Int) < J := by rw [← HJJ.out]; omega
          go_wp2_with (first
            | (refine Held.wpList_run (w := v3) rfl (v := .int .i64 (cntN f q k : Int)) (by rw [← HC.out]; exact y_lookS (S := fun W => W = v3) (E := eI .i64) (k := k) rfl rfl rfl HK8.out Try.underlying9 Try.underlying59 (fun w => by kernel_rfl) (fun W hW => hW ▸ hM2) _ rfl) ?_; simp only [Act.put, Z1, Z2, Z3])
            | (refine Held.wpList_run (w := v3) rfl (v := .int .i64 CN) (y_addI (S := fun _ => True) (cntN f q k : Int) 1 rfl rfl rfl HCN.out _ trivial) ?_; simp only [Act.put, Z1, Z2, Z3])
            | (refine wpList_mapUpdate_S (w := v3) (E := eI .i64) rfl _ _ _ 59 9 k CN rfl m2 q M2 rfl rfl rfl HK8.out trivial Try.underlying9 Try.underlying59 hM2 (by omega) ?_; intro v4 pv4 gv4; have hM1 := hM1.kept gv4 (by simpa using hne); simp only [Act.put])
            | (refine Held.wpList_run (w := v4) rfl (v := .int .i64 J) (y_subI (S := fun _ => True) (n : Int) (K : Int) rfl rfl rfl HJ.out _ trivial) ?_; simp only [Act.put, Z1, Z2, Z3])
            | (refine Held.wpList_run (w := v4) rfl (v := .int .u8 (q : Int)) (Held.y_convert (S := fun _ => True) (a := (q : Int)) rfl rfl (by kernel_rfl) Try.underlying5 HQ.out.1 _ trivial) ?_; simp only [Act.put, Z1, Z2, Z3])
            | (refine wpList_mapUpdate_S (w := v4) (E := eI .u8) rfl _ _ _ 58 9 k (q : Int) rfl m1 q M1 rfl rfl rfl HK8.out trivial Try.underlying9 Try.underlying58 hM1 (by omega) ?_; intro v5 pv5 gv5; simp only [Act.put]))
          have G5 := (G3.put ho2 (by omega) gv4).put ho1 k1 gv5
          have hM2' := pv4.kept gv5 (by simpa using fun e => hne e.symm)
          go_roundw
          case rel => exact ⟨q + 1, by omega, by go_num, ow3, es3, _, _, by rw [show 3 * (q + 1) = 3 * q + 3 by omega, show ((q + 1 : Nat) : Int) = (q : Int) + 1 by omega]; exact G5, HL3.out, ⟨pv5, by have := HW.out; rw [show min (q + 1) (n - K) = q + 1 by omega, ← HFK.out]; rw [show min q (n - K) = q by omega] at this; exact mw_put this⟩, ⟨hM2', by rw [← HCNE.out, ← HFK.out]; exact mc_put HC2.out⟩, ho1, ho2⟩
          case measure => simp [intOf]; omega
        · have hjI : ¬ (q : Int) < J := by rw [← HJJ.out]; omega
          go_wp2_with (first
            | (refine Held.wpList_run (w := v3) rfl (v := .int .i64 (cntN f q k : Int)) (by rw [← HC.out]; exact y_lookS (S := fun W => W = v3) (E := eI .i64) (k := k) rfl rfl rfl HK8.out Try.underlying9 Try.underlying59 (fun w => by kernel_rfl) (fun W hW => hW ▸ hM2) _ rfl) ?_; simp only [Act.put, Z1, Z2, Z3])
            | (refine Held.wpList_run (w := v3) rfl (v := .int .i64 CN) (y_addI (S := fun _ => True) (cntN f q k : Int) 1 rfl rfl rfl HCN.out _ trivial) ?_; simp only [Act.put, Z1, Z2, Z3])
            | (refine wpList_mapUpdate_S (w := v3) (E := eI .i64) rfl _ _ _ 59 9 k CN rfl m2 q M2 rfl rfl rfl HK8.out trivial Try.underlying9 Try.underlying59 hM2 (by omega) ?_; intro v4 pv4 gv4; have hM1 := hM1.kept gv4 (by simpa using hne); simp only [Act.put])
            | (refine Held.wpList_run (w := v4) rfl (v := .int .i64 J) (y_subI (S := fun _ => True) (n : Int) (K : Int) rfl rfl rfl HJ.out _ trivial) ?_; simp only [Act.put, Z1, Z2, Z3]))
          have G5 := G3.put ho2 (by omega) gv4
          go_roundw
          case rel => exact ⟨q + 1, by omega, by go_num, ow3, es3, _, _, by rw [show 3 * (q + 1) = 3 * q + 3 by omega, show ((q + 1 : Nat) : Int) = (q : Int) + 1 by omega]; exact G5, HL3.out, ⟨hM1.mono (by omega), by have := HW.out; rw [show min (q + 1) (n - K) = min q (n - K) by omega]; exact this⟩, ⟨pv4, by rw [← HCNE.out, ← HFK.out]; exact mc_put HC2.out⟩, ho1, ho2⟩
          case measure => simp [intOf]; omega
      · obtain rfl : n = q := by omega
        obtain ⟨hKn, hn40⟩ := HB.out
        have hW1 : MwN f (n - K) M1 := by rw [show min n (n - K) = n - K by omega] at hW1; exact hW1
        have hRL := rl_roll (n := K) hL (by omega)
        have A1 := roll_si G.si (n := (K : Int)) (by omega)
        rw [hRL.1] at A1
        have HRL := Lib.hid hRL
        have HW1 := Lib.hid hW1
        have HC2 := Lib.hid hC2
        clear hRL hW1 hC2 hL hlt hq
        go_wp2_with fail
        refine A1.mono ?_
        rintro r1 x1 ⟨rfl, owa, esa, Ha, Ca, La⟩
        obtain ⟨hM1, ho1⟩ := mp_go hM1 Ca ho1
        obtain ⟨hM2, ho2⟩ := mp_go hM2 Ca ho2
        have Ga := G.go Ha Ca
        rw [← La] at HRL
        have A2 := roll_si Ga.si (n := N1) (by omega)
        rw [rolls_out (.inr (by rw [HNJ.out]; omega))] at A2
        clear G Ha Ca La A1
        go_wp2_with (first
          | (refine Held.wpList_run (w := x1) rfl (v := .int .i64 N1) (y_addI (S := fun _ => True) (n : Int) 1 rfl rfl rfl HN1.out _ trivial) ?_; simp only [Act.put, Z1, Z2, Z3]))
        refine A2.mono ?_
        rintro r1 x2 ⟨rfl, owb, esb, Hb, Cb, Lb⟩
        have Lb : absL esb = absL esa := Lb
        obtain ⟨hM1, ho1⟩ := mp_go hM1 Cb ho1
        obtain ⟨hM2, ho2⟩ := mp_go hM2 Cb ho2
        have Gb := Ga.go Hb Cb
        rw [← Lb] at HRL
        have A3 := roll_si Gb.si (n := -1) (by omega)
        rw [rolls_out (.inl (by omega))] at A3
        clear Ga Hb Cb Lb A2
        go_wp2_with fail
        refine A3.mono ?_
        rintro r1 x3 ⟨rfl, owc, esc, Hc, Cc, Lc⟩
        have Lc : absL esc = absL esb := Lc
        obtain ⟨hM1, ho1⟩ := mp_go hM1 Cc ho1
        obtain ⟨hM2, ho2⟩ := mp_go hM2 Cc ho2
        have Gc := Gb.go Hc Cc
        rw [← Lc] at HRL
        have A4 := writes_si Gc.si
        clear Gb Hc Cc Lc A3
        go_wp2_with fail
        refine A4.mono ?_
        rintro r1 x4 ⟨rfl, rfl⟩
        have R1 : Rq w f (n - K) n s m1 m2 x3 := ⟨owc, esc, M1, M2, _, Gc, by omega, HRL.out.2.1, HRL.out.2.2, ⟨hM1, HW1.out⟩, ⟨hM2, HC2.out⟩, ho1, ho2⟩
        clear Gc A4 hM1 hM2 ho1 ho2 HRL HW1 HC2
        go_wp2_with fail
        go_loopw [11] (fun i wr => ∃ q : Nat, q ≤ 4 ∧ i = .int .i64 q ∧ Rq w f (n - K) n s m1 m2 wr) (fun i _ => 4 - (intOf i).toNat)
        case atStart => exact ⟨0, Nat.zero_le _, rfl, R1⟩
        case round =>
          clear R1
          obtain ⟨r, hr, rfl, ow, es, M1, M2, N, G, hN, hsh, hve, ⟨hM1, hW1⟩, ⟨hM2, hC2⟩, ho1, ho2⟩ := hrel
          by_cases hlt : r < 4
          · have hltI : (r : Int) < 4 := by omega
            obtain ⟨k, hk⟩ : ∃ k, nmR r = k := ⟨_, rfl⟩
            obtain ⟨R, hR⟩ : ∃ R : Int, ((97 + r : Nat) : Int) = R := ⟨_, rfl⟩
            have HZ := Lib.hid (And.intro (show IntKind.i64.wrap (97 + (r : Int)) = R by rw [← hR, IntKind.wrap_i64]; omega) (And.intro (show IntKind.u8.wrap R = R by rw [← hR, IntKind.wrap_u8]; omega) (And.intro (show (Lit.int .u8 R).wf = true by rw [← hR]; simp [Lit.wf, IntKind.min, IntKind.max, IntKind.signed, IntKind.bits]; omega) (show Value.string (strOfNums [R]) = encStr k by rw [← hR, ← hk]; exact nm_text hlt))))
            have HK8 := Lib.hid (show k.length ≤ maxLen by rw [← hk]; exact nm_len r)
            have HS := Lib.hid hsh
            have HV := Lib.hid hve
            have HW1 := Lib.hid hW1
            have HC2 := Lib.hid hC2
            clear hk hR hsh hve hW1 hC2
            go_wp2_with (first
              | (refine Held.wpList_run (w := wr) rfl (v := .int .i64 R) (y_addI (S := fun _ => True) 97 (r : Int) rfl rfl rfl HZ.out.1 _ trivial) ?_; simp only [Act.put, Z1, Z2, Z3])
              | (refine Held.wpList_run (w := wr) rfl (v := .int .u8 R) (Held.y_convert (S := fun _ => True) (a := R) rfl rfl (by kernel_rfl) Try.underlying5 HZ.out.2.1 _ trivial) ?_; simp only [Act.put, Z1, Z2, Z3])
              | (refine build_one (w := wr) R rfl rfl rfl HZ.out.2.2.1 ?_; intro v1 qv1 gv1 zv1; simp only [Act.put, Z1, Z2, Z3])
              | (refine Held.wpList_run (w := v1) rfl (v := encStr k) (text_one _ R k v1 qv1 rfl rfl HZ.out.2.2.2) ?_; simp only [Act.put, Z1, Z2, Z3]))
            have b01 : Below wr.heap.size wr v1 := (Below.refl _ _).grown gv1 (Nat.le_refl _) (by simp)
            have G1 := G.below b01
            have hM1 := hM1.below b01
            have hM2 := hM2.below b01
            clear qv1 gv1 zv1 b01 G
            have A1 := get_si G1.si (k := k) HK8.out (by omega)
            rw [HS.out k] at A1
            have hb2 := HW1.out k
            have hcn := HC2.out k
            have hvk := HV.out k
            obtain ⟨lo, hlo⟩ : ∃ lo, lastN f (n - K) k = lo := ⟨_, rfl⟩
            rw [hlo] at A1 hb2
            obtain ⟨cn, hcc⟩ : ∃ cn, cntN f n k = cn := ⟨_, rfl⟩
            rw [hcc] at hcn hvk
            have hlom : ∀ m, lo = some m → m < 41 := fun m e => by
              have h1 := lastN_lt (hlo.trans e)
              have h2 := HB.out
              omega
            refine A1.mono ?_
            rintro r1 v2 ⟨⟨Ay, ny, cy, zy⟩, rfl, hz, -, hrd, b12⟩
            have G2 := G1.below b12
            have hM1 := hM1.below b12
            have hM2 := hM2.below b12
            have hz : zy = (shO lo).2 := hz
            subst hz
            clear G1 A1 b12
            have HV5 := Lib.hid (show ∀ W : World, Below v2.heap.size v2 W → Calls Try.prog 29 #[.pointer (some ⟨s, 0, none⟩), encStr k] W (fun r w' => r = .returned (.int .i64 (cn : Int)) ∧ Below W.heap.size W w') from fun W hW => by
              have h9 := versions_si (G2.si.below hW) (k := k) HK8.out
              rw [hvk] at h9
              exact h9.mono (fun r w' h => ⟨h.1, h.2 ▸ Below.refl _ _⟩))
            have HCC := Lib.hid (show Value.int .i64 (lookS (0 : Int) M2 k) = .int .i64 (cn : Int) by rw [hcn])
            have HLK := Lib.hid (And.intro hM1 (And.intro hM2 (And.intro hb2 hcn)))
            clear hvk hb2 hcn hlo hcc
            cases lo with
            | none =>
              dsimp only [shO] at hz hrd ⊢
              have HLO := Lib.hid (show (Value.tuple #[.int .u8 (lookS (0 : Int) M1 k), .bool (decide (k ∈ M1.map (·.1)))]) = .tuple #[.int .u8 0, .bool false] by rw [HLK.out.2.2.1.1, HLK.out.2.2.1.2]; rfl)
              clear hz hlom
              clear hrd
              go_wp2_with (first
                | (refine Held.wpList_run (w := v2) rfl (v := .tuple #[.int .u8 0, .bool false]) (by rw [← HLO.out]; exact y_lookS_ok (S := fun W => W = v2) (E := eI .u8) (k := k) rfl rfl rfl HK8.out Try.underlying9 Try.underlying58 (fun w => by kernel_rfl) (fun W hW => hW ▸ HLK.out.1) _ rfl) ?_; simp only [Act.put, Z1, Z2, Z3]))
              refine wp_region_held (S := fun W => Below v2.heap.size v2 W) (by kernel_rfl) ?_
              change wpAnyH _ _ _ _ _ _ _ _ v2.drew
              have c0_0 := (Below.refl v2.heap.size v2).drew
              refine Held.tk (v := .bool false) 0 (some 119) rfl (Held.y_move rfl rfl) c0_0 ?_
              simp only [Act.put, Z1, Z2, Z3]
              refine Held.tk (v := .bool false) 1 (some 120) rfl (Held.y_move rfl rfl) c0_0 ?_
              simp only [Act.put, Z1, Z2, Z3]
              refine Held.tk (v := .bool false) 2 (some 121) rfl (y_neb rfl rfl rfl rfl Try.underlying4) c0_0 ?_
              simp only [Act.put, Z1, Z2, Z3]
              refine Held.tk (v := .bool false) 3 (some 122) rfl (Held.y_move rfl rfl) c0_0 ?_
              simp only [Act.put, Z1, Z2, Z3]
              refine Held.tk (v := .bool false) 4 (some 123) rfl (Held.y_move rfl rfl) c0_0 ?_
              simp only [Act.put, Z1, Z2, Z3]
              refine Held.tk (v := .bool false) 5 (some 124) rfl (Held.y_move rfl rfl) c0_0 ?_
              simp only [Act.put, Z1, Z2, Z3]
              refine Held.skip 6 (some 125) rfl rfl (by kernel_rfl) (by kernel_rfl) (by kernel_rfl) (fun _ _ _ h => h) rfl c0_0 ?_
              simp only [Act.put, Z1, Z2, Z3]
              refine Held.skip 7 (some 126) rfl rfl (by kernel_rfl) (by kernel_rfl) (by kernel_rfl) (fun _ _ _ h => h) rfl c0_0 ?_
              simp only [Act.put, Z1, Z2, Z3]
              refine Held.skip 8 (some 127) rfl rfl (by kernel_rfl) (by kernel_rfl) (by kernel_rfl) (fun _ _ _ h => h) rfl c0_0 ?_
              simp only [Act.put, Z1, Z2, Z3]
              refine Held.skip 9 (some 128) rfl rfl (by kernel_rfl) (by kernel_rfl) (by kernel_rfl) (fun _ _ _ h => h) rfl c0_0 ?_
              simp only [Act.put, Z1, Z2, Z3]
              refine Held.skip 10 (some 129) rfl rfl (by kernel_rfl) (by kernel_rfl) (by kernel_rfl) (fun _ _ _ h => h) rfl c0_0 ?_
              simp only [Act.put, Z1, Z2, Z3]
              refine Held.skip 11 (some 130) rfl rfl (by kernel_rfl) (by kernel_rfl) (by kernel_rfl) (fun _ _ _ h => h) rfl c0_0 ?_
              simp only [Act.put, Z1, Z2, Z3]
              refine Held.skip 12 (some 131) rfl rfl (by kernel_rfl) (by kernel_rfl) (by kernel_rfl) (fun _ _ _ h => h) rfl c0_0 ?_
              simp only [Act.put, Z1, Z2, Z3]
              refine Held.skip 13 (some 132) rfl rfl (by kernel_rfl) (by kernel_rfl) (by kernel_rfl) (fun _ _ _ h => h) rfl c0_0 ?_
              simp only [Act.put, Z1, Z2, Z3]
              refine Held.skip 14 (some 133) rfl rfl (by kernel_rfl) (by kernel_rfl) (by kernel_rfl) (fun _ _ _ h => h) rfl c0_0 ?_
              simp only [Act.put, Z1, Z2, Z3]
              refine Held.skip 15 (some 134) rfl rfl (by kernel_rfl) (by kernel_rfl) (by kernel_rfl) (fun _ _ _ h => h) rfl c0_0 ?_
              simp only [Act.put, Z1, Z2, Z3]
              refine Held.tk (v := (.bool false)) 16 (some 135) rfl (Held.y_pickF rfl rfl rfl) c0_0 ?_
              simp only [Act.put, Z1, Z2, Z3]
              refine Held.tk (v := (.bool false)) 17 (some 136) rfl (Held.y_pickF rfl rfl rfl) c0_0 ?_
              simp only [Act.put, Z1, Z2, Z3]
              refine Held.tk (v := (.bool false)) 18 (some 137) rfl (Held.y_move rfl rfl) c0_0 ?_
              simp only [Act.put, Z1, Z2, Z3]
              refine Held.tk (v := .pointer (some ⟨s, 0, none⟩)) 19 (some 138) rfl (Held.y_move rfl rfl) c0_0 ?_
              simp only [Act.put, Z1, Z2, Z3]
              refine Held.tk (v := encStr k) 20 (some 139) rfl (Held.y_move rfl rfl) c0_0 ?_
              simp only [Act.put, Z1, Z2, Z3]
              refine Held.tk (v := .map (some m2)) 22 (some 141) rfl (Held.y_move rfl rfl) c0_0 ?_
              simp only [Act.put, Z1, Z2, Z3]
              refine Held.tk (v := encStr k) 23 (some 142) rfl (Held.y_move rfl rfl) c0_0 ?_
              simp only [Act.put, Z1, Z2, Z3]
              refine Held.tk (v := .int .i64 (cn : Int)) 24 (some 143) rfl (by rw [← HCC.out]; exact y_lookS (E := eI .i64) (k := k) rfl rfl rfl HK8.out Try.underlying9 Try.underlying59 (fun w => by kernel_rfl) (fun W hW => HLK.out.2.1.below hW)) c0_0 ?_
              simp only [Act.put, Z1, Z2, Z3]
              refine Held.one 21 (by kernel_rfl) ?_
              refine Held.op_call 21 (some 140) 29 #[.pointer (some ⟨s, 0, none⟩), encStr k] rfl rfl rfl rfl (enters_of Try.func29 (by kernel_rfl) rfl) (by simp [Act.eval])
                (HV5.out _ c0_0) ?_
              rintro e w1 ⟨rfl, b1⟩
              have c0_1 := c0_0.trans (b1.mono c0_0.size)
              refine ⟨_, rfl, c0_1, ?_⟩
              simp only [Act.put, Z1, Z2, Z3]
              refine Held.tk (v := .bool false) 25 (some 144) rfl (Held.y_neI rfl rfl rfl (by simp)) c0_1 ?_
              simp only [Act.put, Z1, Z2, Z3]
              refine Held.tk (v := .bool false) 26 (some 145) rfl (Held.y_pickF rfl rfl rfl) c0_1 ?_
              simp only [Act.put, Z1, Z2, Z3]
              refine wpAnyH_done (by kernel_rfl) ?_ _
              have G9 := G2.below c0_1
              have hM1 := HLK.out.1.below c0_1
              have hM2 := HLK.out.2.1.below c0_1
              clear HV5 HLK HCC HLO
              go_wp2_with fail
              go_roundw
              case rel => exact ⟨r + 1, by omega, by go_num, ow, es, M1, M2, N, G9, hN, HS.out, HV.out, ⟨hM1, HW1.out⟩, ⟨hM2, HC2.out⟩, ho1, ho2⟩
              case measure => simp [intOf]; omega
            | some m =>
              dsimp only [shO] at hz hrd ⊢
              have HLO := Lib.hid (show (Value.tuple #[.int .u8 (lookS (0 : Int) M1 k), .bool (decide (k ∈ M1.map (·.1)))]) = .tuple #[.int .u8 (m : Int), .bool true] by rw [HLK.out.2.2.1.1, HLK.out.2.2.1.2]; rfl)
              clear hz hlom
              obtain rfl : ny = 1 := hrd.len.symm
              obtain ⟨b, off, e9, hbl, hcells⟩ := hrd.1.2.2 (by show 0 < 1; omega)
              dsimp only at e9
              obtain rfl : Ay = _ := e9
              have hcl : v2.cell? ⟨b, off + 0 * 1, none⟩ = some (.int .u8 (m : Int)) := hcells 0 (by show 0 < 1; omega)
              clear hrd hcells
              go_wp2_with (first
                | (refine Held.wpList_run (w := v2) rfl (v := .tuple #[.int .u8 (m : Int), .bool true]) (by rw [← HLO.out]; exact y_lookS_ok (S := fun W => W = v2) (E := eI .u8) (k := k) rfl rfl rfl HK8.out Try.underlying9 Try.underlying58 (fun w => by kernel_rfl) (fun W hW => hW ▸ HLK.out.1) _ rfl) ?_; simp only [Act.put, Z1, Z2, Z3]))
              refine wp_region_held (S := fun W => Below v2.heap.size v2 W) (by kernel_rfl) ?_
              change wpAnyH _ _ _ _ _ _ _ _ v2.drew
              have c0_0 := (Below.refl v2.heap.size v2).drew
              refine Held.tk (v := .bool true) 0 (some 119) rfl (Held.y_move rfl rfl) c0_0 ?_
              simp only [Act.put, Z1, Z2, Z3]
              refine Held.tk (v := .bool true) 1 (some 120) rfl (Held.y_move rfl rfl) c0_0 ?_
              simp only [Act.put, Z1, Z2, Z3]
              refine Held.tk (v := .bool false) 2 (some 121) rfl (y_neb rfl rfl rfl rfl Try.underlying4) c0_0 ?_
              simp only [Act.put, Z1, Z2, Z3]
              refine Held.tk (v := .bool false) 3 (some 122) rfl (Held.y_move rfl rfl) c0_0 ?_
              simp only [Act.put, Z1, Z2, Z3]
              refine Held.tk (v := .bool true) 4 (some 123) rfl (Held.y_move rfl rfl) c0_0 ?_
              simp only [Act.put, Z1, Z2, Z3]
              refine Held.tk (v := .bool true) 5 (some 124) rfl (Held.y_move rfl rfl) c0_0 ?_
              simp only [Act.put, Z1, Z2, Z3]
              refine Held.tk (v := .slice (some ⟨b, off, none⟩) 1 cy) 6 (some 125) rfl (Held.y_move rfl rfl) c0_0 ?_
              simp only [Act.put, Z1, Z2, Z3]
              refine Held.tk (v := .int .i64 (1 : Int)) 7 (some 126) rfl (Held.y_len rfl rfl Try.underlying31) c0_0 ?_
              simp only [Act.put, Z1, Z2, Z3]
              refine Held.tk (v := .bool false) 8 (some 127) rfl (Held.y_neI rfl rfl rfl (by decide)) c0_0 ?_
              simp only [Act.put, Z1, Z2, Z3]
              refine Held.tk (v := .bool false) 9 (some 128) rfl (Held.y_move rfl rfl) c0_0 ?_
              simp only [Act.put, Z1, Z2, Z3]
              refine Held.tk (v := .slice (some ⟨b, off, none⟩) 1 cy) 10 (some 129) rfl (Held.y_move rfl rfl) c0_0 ?_
              simp only [Act.put, Z1, Z2, Z3]
              refine Held.tk (v := .pointer (some ⟨b, off + 0 * 1, none⟩)) 11 (some 130) rfl (Held.y_addr rfl rfl rfl (fun W => Rs.run_addr_of (P := Try.prog) 31 5 b off 1 cy 0 1 .i64 Try.underlying31 (by kernel_rfl) (by omega) W)) c0_0 ?_
              simp only [Act.put, Z1, Z2, Z3]
              refine Held.tk (v := .int .u8 (m : Int)) 12 (some 131) rfl (Held.y_load rfl rfl (by kernel_rfl) (fun W hW => (hW.cell (p := ⟨b, off + 0 * 1, none⟩) hbl).trans hcl)) c0_0 ?_
              simp only [Act.put, Z1, Z2, Z3]
              refine Held.tk (v := .int .u8 (m : Int)) 13 (some 132) rfl (Held.y_move rfl rfl) c0_0 ?_
              simp only [Act.put, Z1, Z2, Z3]
              refine Held.tk (v := .bool false) 14 (some 133) rfl (Held.y_neI rfl rfl rfl (by simp)) c0_0 ?_
              simp only [Act.put, Z1, Z2, Z3]
              refine Held.tk (v := .bool false) 15 (some 134) rfl (Held.y_pickF rfl rfl rfl) c0_0 ?_
              simp only [Act.put, Z1, Z2, Z3]
              refine Held.tk (v := .bool false) 16 (some 135) rfl (Held.y_pick rfl rfl rfl) c0_0 ?_
              simp only [Act.put, Z1, Z2, Z3]
              refine Held.tk (v := .bool false) 17 (some 136) rfl (Held.y_pickF rfl rfl rfl) c0_0 ?_
              simp only [Act.put, Z1, Z2, Z3]
              refine Held.tk (v := .bool false) 18 (some 137) rfl (Held.y_move rfl rfl) c0_0 ?_
              simp only [Act.put, Z1, Z2, Z3]
              refine Held.tk (v := .pointer (some ⟨s, 0, none⟩)) 19 (some 138) rfl (Held.y_move rfl rfl) c0_0 ?_
              simp only [Act.put, Z1, Z2, Z3]
              refine Held.tk (v := encStr k) 20 (some 139) rfl (Held.y_move rfl rfl) c0_0 ?_
              simp only [Act.put, Z1, Z2, Z3]
              refine Held.tk (v := .map (some m2)) 22 (some 141) rfl (Held.y_move rfl rfl) c0_0 ?_
              simp only [Act.put, Z1, Z2, Z3]
              refine Held.tk (v := encStr k) 23 (some 142) rfl (Held.y_move rfl rfl) c0_0 ?_
              simp only [Act.put, Z1, Z2, Z3]
              refine Held.tk (v := .int .i64 (cn : Int)) 24 (some 143) rfl (by rw [← HCC.out]; exact y_lookS (E := eI .i64) (k := k) rfl rfl rfl HK8.out Try.underlying9 Try.underlying59 (fun w => by kernel_rfl) (fun W hW => HLK.out.2.1.below hW)) c0_0 ?_
              simp only [Act.put, Z1, Z2, Z3]
              refine Held.one 21 (by kernel_rfl) ?_
              refine Held.op_call 21 (some 140) 29 #[.pointer (some ⟨s, 0, none⟩), encStr k] rfl rfl rfl rfl (enters_of Try.func29 (by kernel_rfl) rfl) (by simp [Act.eval])
                (HV5.out _ c0_0) ?_
              rintro e w1 ⟨rfl, b1⟩
              have c0_1 := c0_0.trans (b1.mono c0_0.size)
              refine ⟨_, rfl, c0_1, ?_⟩
              simp only [Act.put, Z1, Z2, Z3]
              refine Held.tk (v := .bool false) 25 (some 144) rfl (Held.y_neI rfl rfl rfl (by simp)) c0_1 ?_
              simp only [Act.put, Z1, Z2, Z3]
              refine Held.tk (v := .bool false) 26 (some 145) rfl (Held.y_pickF rfl rfl rfl) c0_1 ?_
              simp only [Act.put, Z1, Z2, Z3]
              refine wpAnyH_done (by kernel_rfl) ?_ _
              have G9 := G2.below c0_1
              have hM1 := HLK.out.1.below c0_1
              have hM2 := HLK.out.2.1.below c0_1
              clear HV5 HLK HCC HLO
              go_wp2_with fail
              go_roundw
              case rel => exact ⟨r + 1, by omega, by go_num, ow, es, M1, M2, N, G9, hN, HS.out, HV.out, ⟨hM1, HW1.out⟩, ⟨hM2, HC2.out⟩, ho1, ho2⟩
              case measure => simp [intOf]; omega
          · obtain rfl : r = 4 := by omega
            go_wp2_with fail
            go_ret
            exact ⟨rfl, G.bel⟩
theorem walk (a0 : Option Addr) (len0 cap0 : Nat) (z0 : List Int) (a1 : Int) (w : World) (w0 : IsRow .i64 w a0 len0 cap0 z0) (w1 : (Lit.int .i64 a1).wf = true) :
    Calls Try.prog 6 #[.slice a0 len0 cap0, .int .i64 a1] w fun e w' => e = .returned (.bool true) ∧ Below w.heap.size w w' := by
  exact (fun h => start a0 len0 cap0 (z0.take len0) a1 w h.1 w1) (Mem.ints_of_row w0)
set_option maxRecDepth 100000 in
theorem lifted (os : Os) (started : os.Started) (H : Type) (enc : TypeId × Value → H) :
    ReturnsInHanded {} Try.checked os 6 .any (Rows.storeRollsSpec.pre6 enc Try.prog Try.f6 Rows.storeRollsRow.domain false) (Rows.storeRollsSpec.post enc Try.prog Try.f6 false true false false) := by
  refine returnsInHanded_of_change (C := Try.checked) own started (by kernel_rfl) Try.func6
    (ChangeSpec.witness6 (enc := enc) (C := Try.checked) false ⟨#[], #[.slice none 0 0, .int .i64 0], []⟩ 8 (by kernel_rfl) (by kernel_rfl) (by kernel_rfl) (by kernel_rfl)) ?_
  intro W base args ds gs before hval0 hW hcnd _
  have hval : ∀ (j : Nat) t v, Try.f6.params[j]? = some t → args[j]? = some v → Value.okWide Try.prog W .any base t v := hval0
  have hW' := hW
  obtain ⟨p, q, hA0, hV, rfl, hfz, hnd⟩ := hW
  have hA : DataW.TrodAll enc Try.prog W 0 (fun _ => true) true Try.f6.params.toList args.toList ds p := hA0
  rw [Try.params6] at hA hval
  obtain ⟨v0, vs0, d0, ds0, p0, q0, hargs, rfl, rfl, h0, r0⟩ := trodAll_cons hA
  obtain ⟨v1, vs1, d1, ds1, p1, q1, rfl, rfl, rfl, h1, r1⟩ := trodAll_cons r0
  obtain ⟨rfl, rfl, rfl⟩ := trodAll_nil r1
  obtain rfl : args = #[v0, v1] := by cases args; simp_all
  obtain ⟨rfl, rfl⟩ := trodVars_none hV
  obtain ⟨a0, len0, cap0, rfl⟩ := okWide_slice Try.underlying57 (hval 0 57 v0 rfl rfl)
  have k0 := h0
  have lt0 : ∀ x ∈ p0, x.block < W.heap.size := by obtain ⟨m, hm⟩ := k0; exact DataW.trod_lt m _ _ _ hm
  obtain ⟨z0, w0⟩ : ∃ zs, IsRow .i64 W a0 len0 cap0 zs := by
    obtain ⟨fuel, hf⟩ := h0
    rcases open_ints Try.underlying57 Try.underlying3 (by kernel_rfl) hf with ⟨hcs, _⟩ | ⟨x, l, c, zs, hcs, _, hl, hm, hz, _, hcell, hwz⟩
    · simp [Value.cells] at hcs
      obtain ⟨rfl, rfl, rfl⟩ := hcs
      exact ⟨[], .inl ⟨rfl, rfl, rfl, rfl⟩⟩
    · simp [Value.cells] at hcs
      obtain ⟨rfl, rfl, rfl⟩ := hcs
      exact ⟨zs, .inr ⟨_, rfl, hl, hm, by simpa using hz, hcell, hwz⟩⟩
  obtain ⟨a1, rfl, rfl, rfl, w1⟩ := open_int Try.underlying3 (hval 1 3 v1 rfl rfl) h1
  clear hA0 hval0
  refine (walk a0 len0 cap0 z0 a1 W w0 w1).mono fun e W' ⟨he, bel⟩ => ?_
  subst he
  exact ⟨_, rfl, _, _, _, [], _, [], hW', trodAll_mk1 (shut_bool Try.underlying4 _), (trodAll_cons_mk (Below.trod laidOut (by kernel_rfl) (of_decide_eq_true (by kernel_rfl)) k0 bel lt0) (trodAll_cons_mk (shut_int Try.underlying3 w1) trodAll_mk0)), rfl, bel.frame _, fun h => by cases h⟩
theorem over : Rows.storeRollsRow.holds Try.pinned (OpenSpec.ofChange Rows.storeRollsSpec) :=
  OpenClaim.holds_of_wide 6 Try.f6 rfl rfl rfl rfl rfl rfl rfl ⟨rfl, rfl, rfl, rfl, rfl⟩ rfl rfl rfl rfl rfl (by kernel_rfl) Try.func6 (by kernel_rfl)
    (of_decide_eq_true (by kernel_rfl)) (by unfold Func.isWrapper; first | (rw [if_pos (by decide +kernel)]; kernel_rfl) | (rw [if_neg (by decide +kernel)]; exact ⟨rfl, rfl⟩))
    (fun os started H enc _ => lifted os started H enc)
theorem proved : Rows.StoreRollsSaid :=
  over
#print axioms proved
end Go.Proofs.Ytbippmbcgkicaaa.storeRolls
