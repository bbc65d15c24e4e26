/-
  The law AeadBack of package dominolaw07 returns true for every key, nonce, bytes beside, plain, two numbers and a byte: what is sealed is opened; with a bit turned, cut off, with other bytes beside, another nonce or another key it is opened just as the document's opens it. The tables of packages chacha and poly hold what the program's text lays.
-/
import Derived.Test.YtebcejncjljmhaaDoorRows
import Derived.Test.YtebcejncjljmhaaDoorCards
import Derived.Test.YtebcejncjljmhaaDoorTie
import Derived.SevenTiedAt
import Derived.WalkKit
import Derived.ProofKit
import Derived.OpenShut
import Derived.ShutString
import Derived.ChangeOld
import Derived.Below
import Derived.LaidMore
import Derived.Stop.Joined
import Derived.Test.YtebcejncjljmhaaDoorB5
import Derived.Test.YtebcejncjljmhaaDoorB2
namespace Go.Proofs.YtebcejncjljmhaaDoor.aeadBack
open Go.ChangeShapes Go.WideShapes Go.ChangeAt Go.RowKit
open Go.ChangeMaps (open_string shut_string)
open Go.Shelf Go.Proofs.YtebcejncjljmhaaDoor.Mem Go.Proofs.YtebcejncjljmhaaDoor.Help Go.Proofs.YtebcejncjljmhaaDoor.Sum Go.Proofs.YtebcejncjljmhaaDoor.Po Go.Proofs.YtebcejncjljmhaaDoor.Ae Go.Proofs.YtebcejncjljmhaaDoor
set_option linter.unusedVariables false

theorem own : ownKnob Tryd.prog.godebug = none := by kernel_rfl
theorem laidOut : laidOutB Tryd.prog = true := by kernel_rfl

/-- what a slice that came in leads to -/
def IsRow (k : IntKind) (w : World) (a : Option Addr) (len cap : Nat) (zs : List Int) : Prop :=
  (a = none ∧ len = 0 ∧ cap = 0 ∧ zs = []) ∨
  ∃ x, a = some x ∧ len ≤ cap ∧ cap ≤ maxLen ∧ zs.length = cap ∧ (∀ i, i < zs.length → w.cell? (x.add i) = some (.int k (zs.getD i 0))) ∧ ∀ n ∈ zs, (Lit.int k n).wf = true

def laidList : List (String × DataW Unit) := [("domino/chacha.start", Rows.laid_domino_chacha_start), ("domino/poly.kept", Rows.laid_domino_poly_kept)]

attribute [local irreducible] wpList Calls
set_option maxRecDepth 150000 in
set_option maxHeartbeats 8000000 in
theorem alike_any (key nonce : List Int) (A : Option Addr) (n c : Nat) (xs : List Int) (A2 : Option Addr) (n2 c2 : Nat) (ys : List Int) (B0 B B2 : Nat) (w : World) (hL : Laid B0 w) (hB0 : B0 ≤ w.heap.size) (hk : key.length = 32) (hkb : Bs key) (hnl : nonce.length = 12) (hnb : Bs nonce)
    (h : Arg w B A n c xs) (hn : n ≤ 65536) (h2 : Arg w B2 A2 n2 c2 ys) (hn2 : n2 ≤ 65552) :
    Calls Tryd.prog 19 #[.agg (arr .u8 key), .agg (arr .u8 nonce), .slice A n c, .slice A2 n2 c2] w fun e w' => e = .returned (.bool true) ∧ Below w.heap.size w w' := by
  have HK := Lib.hid hk
  have HN := Lib.hid hnl
  have HB0 := Lib.hid hB0
  clear hk hnl hB0
  go_enter Tryd.func19, Tryd.ntmps19
  go_wp2_with (first
    | (refine wpList_box_Row (w := w) rfl 22 _ rfl .u8 key rfl (bs_wf hkb) ?_; intro w1 r1 g1 z1)
    | (refine wpList_box_Row (w := w1) rfl 23 _ rfl .u8 nonce rfl (bs_wf hnb) ?_; intro w2 r2 g2 z2; have r12 := r1.grown g2 (by simp))
    | (refine wpList_load_Row (w := w2) rfl 22 _ rfl w.heap.size rfl 22 .u8 _ r12 32 5 Tryd.underlying22 size_32b HK.out ?_)
    | (refine wpList_load_Row (w := w2) rfl 23 _ rfl w1.heap.size rfl 23 .u8 _ r2 12 5 Tryd.underlying23 size_12b HN.out ?_))
  obtain ⟨gn, hgn⟩ : ∃ g, w1.heap.size = g := ⟨_, rfl⟩
  have b2 : Below w.heap.size w w2 := ((Below.refl _ w).grown g1 (Nat.le_refl _) (by simp)).grown g2 g1.size (by simp)
  rw [hgn] at r2 ⊢
  clear hgn r1 g1 g2 z1 z2 w1
  refine (open_told key nonce B0 B A n c xs B2 A2 n2 c2 ys w2 (hL.below (b2.mono HB0.out)) (Nat.le_trans HB0.out b2.size) HK.out hkb HN.out hnb (h.below (b2.mono h.2.1)) hn (h2.below (b2.mono h2.2.1)) hn2).mono ?_
  rintro e w3 ⟨A5, m, c5, p, er, rfl, HM, hm, HT, o5, hb3⟩
  have b3 := b2.trans (hb3.mono b2.size)
  have k3 := r12.below hb3 r12.lt
  have n3 := r2.below hb3 r2.lt
  have a5 := arg_of_own o5 HM.out
  clear hb3 b2 r12 r2 o5
  go_wp2_with (first
    | (refine wpList_load_Row (w := w3) rfl 22 _ rfl w.heap.size rfl 22 .u8 _ k3 32 5 Tryd.underlying22 size_32b HK.out ?_)
    | (refine wpList_load_Row (w := w3) rfl 23 _ rfl gn rfl 23 .u8 _ n3 12 5 Tryd.underlying23 size_12b HN.out ?_))
  refine (ropen_told key nonce B A n c xs B2 A2 n2 c2 ys w3 HK.out hkb HN.out hnb (h.below (b3.mono h.2.1)) hn (h2.below (b3.mono h2.2.1)) hn2).mono ?_
  rintro e w4 ⟨A6, m6, c6, p6, er6, rfl, HM6, hm6, HT6, o6, hb4⟩
  have hpp := HT6.out
  rw [HT.out] at hpp
  injection hpp with hp1 hp2
  subst hp1
  subst hp2
  have hmm : m6 = m := by rw [← HM6.out, HM.out]
  subst hmm
  have b4 := b3.trans (hb4.mono b3.size)
  have i6 := (arg_of_own o6 HM6.out).ints
  have i5 := (a5.below hb4).ints
  clear hb4 b3 k3 n3 o6 a5 HT HT6
  go_wp2_with fail
  refine (bytes_any _ _ A5 A6 m6 m6 c5 c6 p p w4 i5 i6).mono ?_
  rintro e w5 ⟨rfl, rfl⟩
  have hd : decide (p = p) = true := by simp
  rw [hd]
  clear hd
  go_wp2_with fail
  go_ret
  exact ⟨rfl, b4⟩

theorem zero_12b : (Tryd.prog.info? 23).bind (·.zero) = some (.agg (arr .u8 (List.replicate 12 0))) := by kernel_rfl
/-- a call of a function value -/
theorem op_callv {P : Program} {ops : Array Oper} {Q : Exit → Act → World → Prop} (i : Nat) (d : Option Tmp) {o : Oper} {a : Act} {w : World} {K : Act → World → Prop} (f : FuncId) (vals : Array Value) {x : Operand} {xs : Array Operand} {ts : Array TypeId} {R : Ending → World → Prop} (hi : ops[i]? = some o) (hd : o.dst = d) (hw : Region.wanted o (yielded ops a.tmps) = true)
    (ho : o.op = .call { callee := .value x, args := xs, argTypes := ts }) (hx : a.eval x = .func (.func f) #[] #[]) (he : Enters P f) (hv : xs.map a.eval = vals)
    (hc : Calls P f vals w R)
    (h : ∀ e w', R e w' → ∃ v, e = .returned v ∧ K (a.put d v) w') : wpOp P ops Q i K a w := by
  subst hd
  refine Held.op_wp i hi hw ?_
  have hrun : (execOp a.eval o).run P w = .ok (.enter f vals) w := by
    unfold execOp
    simp only [ho, resolve, hx, Deferred.ofValue, Sem.run_bind, Sem.run_pure, Result.andThen_ok, invoke, Array.empty_append, Array.append_empty, hv]
    exact he _ _
  unfold Oper.wp
  rw [hrun, Oper.upon_enter]
  refine hc.mono fun e w' hR => ?_
  obtain ⟨v, rfl, hW⟩ := h e w' hR
  exact hW

theorem cut_at (x M : Int) (hm : 0 < M) (hm' : M ≤ 100000) : ∃ k : Nat, wrap64 ((IntKind.u64.wrap x).tmod M) = (k : Int) ∧ (k : Int) < M ∧ (IntKind.u64.wrap x).tmod M = (k : Int) := by
  have hu0 : 0 ≤ IntKind.u64.wrap x := by rw [IntKind.wrap_u64]; omega
  have h1 : 0 ≤ IntKind.u64.wrap x % M := Int.emod_nonneg _ (by omega)
  have h2 : IntKind.u64.wrap x % M < M := Int.emod_lt_of_pos _ (by omega)
  rw [Int.tmod_eq_emod_of_nonneg hu0]
  exact ⟨(IntKind.u64.wrap x % M).toNat, by unfold wrap64; omega, by omega, by omega⟩
set_option maxRecDepth 150000 in
set_option maxHeartbeats 8000000 in
theorem start (key nonce : List Int) (A : Option Addr) (n c : Nat) (xs : List Int) (A2 : Option Addr) (n2 c2 : Nat) (ys : List Int) (at_ cut other : Int) (w : World) (hL : Laid w.heap.size w) (hk : key.length = 32) (hkb : Bs key) (hnl : nonce.length = 12) (hnb : Bs nonce)
    (h : Arg w w.heap.size A n c xs) (h2 : Arg w w.heap.size A2 n2 c2 ys) (hot : (Lit.int .u8 other).wf = true) :
    Calls Tryd.prog 5 #[.agg (arr .u8 key), .agg (arr .u8 nonce), .slice A n c, .slice A2 n2 c2, .int .i64 at_, .int .i64 cut, .int .u8 other] w fun e w' => e = .returned (.bool true) ∧ Below w.heap.size w w' := by
  have HK := Lib.hid hk
  have HN := Lib.hid hnl
  have HY := Lib.hid h2.len
  clear hk hnl
  by_cases hbig : 300 < n ∨ 800 < n2
  · by_cases h1 : 300 < n
    · have q1 : (300 : Int) < (n : Int) := by omega
      go_enter Tryd.func5, Tryd.ntmps5
      go_wp2_with (first
        | (refine wpList_box_Row (w := w) rfl 22 _ rfl .u8 key rfl (bs_wf hkb) ?_; intro w1 r1 g1 z1)
        | (refine wpList_box_Row (w := w1) rfl 23 _ rfl .u8 nonce rfl (bs_wf hnb) ?_; intro w2 r2 g2 z2))
      have b2 : Below w.heap.size w w2 := ((Below.refl _ w).grown g1 (Nat.le_refl _) (by simp)).grown g2 g1.size (by simp)
      refine (awake7_b w.heap.size w2 (hL.below b2) b2.size).mono ?_
      rintro e w' ⟨rfl, hb⟩
      go_wp2_with fail
      go_ret
      exact ⟨rfl, b2.trans (hb.mono b2.size)⟩
    · have q1 : ¬ (300 : Int) < (n : Int) := by omega
      have q2 : (800 : Int) < (n2 : Int) := by omega
      go_enter Tryd.func5, Tryd.ntmps5
      go_wp2_with (first
        | (refine wpList_box_Row (w := w) rfl 22 _ rfl .u8 key rfl (bs_wf hkb) ?_; intro w1 r1 g1 z1)
        | (refine wpList_box_Row (w := w1) rfl 23 _ rfl .u8 nonce rfl (bs_wf hnb) ?_; intro w2 r2 g2 z2))
      have b2 : Below w.heap.size w w2 := ((Below.refl _ w).grown g1 (Nat.le_refl _) (by simp)).grown g2 g1.size (by simp)
      refine (awake7_b w.heap.size w2 (hL.below b2) b2.size).mono ?_
      rintro e w' ⟨rfl, hb⟩
      go_wp2_with fail
      go_ret
      exact ⟨rfl, b2.trans (hb.mono b2.size)⟩
  have hn : n ≤ 300 := by omega
  have hn2 : n2 ≤ 800 := by omega
  have q1 : ¬ (300 : Int) < (n : Int) := by omega
  have q2 : ¬ (800 : Int) < (n2 : Int) := by omega
  have HOS := Lib.hid (opened_sealed key nonce xs (plain := ys) h2.bytes)
  have HSL := Lib.hid (show (sealed key nonce xs ys).length = n2 + 16 by rw [sealed_length, HY.out])
  clear hbig
  go_enter Tryd.func5, Tryd.ntmps5
  go_wp2_with (first
    | (refine wpList_box_Row (w := w) rfl 22 _ rfl .u8 key rfl (bs_wf hkb) ?_; intro w1 r1 g1 z1)
    | (refine wpList_box_Row (w := w1) rfl 23 _ rfl .u8 nonce rfl (bs_wf hnb) ?_; intro w2 r2 g2 z2; have r12 := r1.grown g2 (by simp))
    | (refine wpList_load_Row (w := w2) rfl 22 _ rfl w.heap.size rfl 22 .u8 _ r12 32 5 Tryd.underlying22 size_32b HK.out ?_)
    | (refine wpList_load_Row (w := w2) rfl 23 _ rfl w1.heap.size rfl 23 .u8 _ r2 12 5 Tryd.underlying23 size_12b HN.out ?_))
  obtain ⟨gn, hgn⟩ : ∃ g, w1.heap.size = g := ⟨_, rfl⟩
  have b2 : Below w.heap.size w w2 := ((Below.refl _ w).grown g1 (Nat.le_refl _) (by simp)).grown g2 g1.size (by simp)
  rw [hgn] at r2 ⊢
  clear hgn r1 g1 g2 z1 z2 w1
  refine (seal_any key nonce w.heap.size w.heap.size A n c xs w.heap.size A2 n2 c2 ys w2 (hL.below b2) b2.size HK.out hkb HN.out hnb (h.below b2) (by omega) (h2.below b2) (by omega)).mono ?_
  rintro e w3 ⟨A3, m, c3, rfl, HM, o3, hb3⟩
  have b3 := b2.trans (hb3.mono b2.size)
  have k3 := r12.below hb3 r12.lt
  have n3 := r2.below hb3 r2.lt
  have hm : m = n2 + 16 := by rw [← HM.out, HSL.out]
  have HMN := Lib.hid hm
  have a3 := arg_of_own o3 HM.out
  have hm1 : 16 ≤ m := by omega
  have hm2 : m ≤ 816 := by omega
  clear hb3 b2 r12 r2 o3 hm
  go_wp2_with (first
    | (refine wpList_load_Row (w := w3) rfl 22 _ rfl w.heap.size rfl 22 .u8 _ k3 32 5 Tryd.underlying22 size_32b HK.out ?_)
    | (refine wpList_load_Row (w := w3) rfl 23 _ rfl gn rfl 23 .u8 _ n3 12 5 Tryd.underlying23 size_12b HN.out ?_))
  refine (open_any key nonce w.heap.size w.heap.size A n c xs w3.heap.size A3 m c3 n2 (sealed key nonce xs ys) w3 (hL.below b3) b3.size HK.out hkb HN.out hnb (h.below b3) (by omega) a3 HMN.out (by omega)).mono ?_
  rintro e w4 ⟨hb4, hr⟩
  rw [HOS.out] at hr
  rcases hr with ⟨hr, _⟩ | ⟨p, A4, c4, hp, hpl, rfl, o4⟩
  · cases hr
  cases hp
  have b4 := b3.trans (hb4.mono b3.size)
  have k4 := k3.below hb4 k3.lt
  have n4 := n3.below hb4 n3.lt
  have a3 := (a3.below hb4).more hb4.size (Nat.le_refl _)
  have a4 := arg_of_own o4 hpl
  clear hb4 b3 k3 n3 o4 HOS hpl
  go_wp2_with fail
  refine (awake7_b w.heap.size w4 (hL.below b4) b4.size).mono ?_
  rintro e w5 ⟨rfl, hb5⟩
  have b5 := b4.trans (hb5.mono b4.size)
  have k5 := k4.below hb5 k4.lt
  have n5 := n4.below hb5 n4.lt
  have a3 := (a3.below hb5).more hb5.size (Nat.le_refl _)
  have i4 := (a4.below hb5).ints
  have i2 := (h2.below b5).ints
  clear hb5 b4 k4 n4 a4
  go_wp2_with fail
  refine (bytes_any _ _ A4 A2 n2 n2 c4 c2 ys ys w5 i4 i2).mono ?_
  rintro e w6 ⟨rfl, rfl⟩
  have hd : decide (ys = ys) = true := by simp
  rw [hd]
  clear hd i4 i2
  have hmn : ((m : Int) != (n2 : Int) + 16) = false := by have := HMN.out; simp; omega
  go_wp2_with fail
  clear hmn
  have HSB := Lib.hid (sealed_bytes key nonce xs h2.bytes)
  obtain ⟨zs, hzs⟩ : ∃ zs, sealed key nonce xs ys = zs := ⟨_, rfl⟩
  rw [hzs] at HSL HM a3 HSB
  clear hzs HSL h2 HMN
  refine (copy_any _ A3 m c3 zs w5 a3.ints (by omega)).mono ?_
  rintro e w6 ⟨v, rfl, o6, hb6⟩
  have b6 := b5.trans (hb6.mono b5.size)
  have k6 := k5.below hb6 k5.lt
  have n6 := n5.below hb6 n5.lt
  have lk := k5.lt
  have ln := n5.lt
  have a3 := a3.below hb6
  have s5 := b5.size
  obtain ⟨gc, cc, rfl, hgc, hgl, hcm, hcx, hcells⟩ := o6.at_ (by rw [HM.out]; omega)
  rw [HM.out] at o6 hcm hcells ⊢
  have hgs : w.heap.size ≤ gc := by omega
  have hgk : w.heap.size < gc := by omega
  have hgn' : gn < gc := by omega
  clear hb6 b5 k5 n5
  obtain ⟨k, hk, hkm, -⟩ := cut_at at_ (8 * (m : Int)) (by omega) (by omega)
  obtain ⟨a8, ha8⟩ : ∃ a, k / 8 = a := ⟨_, rfl⟩
  obtain ⟨r8, hr8⟩ : ∃ a, k % 8 = a := ⟨_, rfl⟩
  obtain ⟨r32, hr32⟩ : ∃ a, k % 32 = a := ⟨_, rfl⟩
  obtain ⟨r12, hr12⟩ : ∃ a, k % 12 = a := ⟨_, rfl⟩
  have T8 : (k : Int).tdiv 8 = (a8 : Int) := by rw [Int.tdiv_eq_ediv_of_nonneg (by omega)]; omega
  have R8 : (k : Int).tmod 8 = (r8 : Int) := by rw [Int.tmod_eq_emod_of_nonneg (by omega)]; omega
  have R32 : (k : Int).tmod 32 = (r32 : Int) := by rw [Int.tmod_eq_emod_of_nonneg (by omega)]; omega
  have R12 : (k : Int).tmod 12 = (r12 : Int) := by rw [Int.tmod_eq_emod_of_nonneg (by omega)]; omega
  have ha8m : (a8 : Int) < (m : Int) := by omega
  have ha80 : (0 : Int) ≤ (a8 : Int) := by omega
  have hr80 : r8 < 8 := by omega
  have hr3 : r32 < 32 := by omega
  have hr1 : r12 < 12 := by omega
  have hc8 := hcells.1 a8 (by omega)
  have hf8 := hcells.2 a8
  have HA8 := Lib.hid ha8
  clear hkm ha8 hr8 hr32 hr12 hcells
  generalize zs.getD a8 0 = x8 at hc8
  obtain ⟨z8, hz8⟩ : ∃ z, bits .xor .u8 x8 (2 ^ r8 % 256) = z := ⟨_, rfl⟩
  have hwz : (Lit.int .u8 z8).wf = true := by rw [← hz8]; exact wf_bits _ _ _ _
  have HZ8 := Lib.hid hz8
  have g7 := grown_setCell w6 gc a8 (.int .u8 z8)
  have o7 : Mem.Own (w6.setCell ⟨gc, a8, none⟩ (.int .u8 z8)) w5.heap.size 5 .u8 (.slice (some ⟨gc, 0, none⟩) m cc) (zs.set a8 z8) := by
    have := HM.out
    subst this
    exact o6.set a8 hwz
  have HM7 := Lib.hid (show (zs.set a8 z8).length = m by rw [List.length_set]; exact HM.out)
  have H67 := Lib.hid ((Below.refl w5.heap.size w6).grown g7 (by omega) (fun r e => by cases e; exact hgc))
  have H7 := Lib.hid (b6.grown g7 b6.size (fun r e => by cases e; omega))
  have k7 := k6.grown g7 (by intro e; injection e with e; omega)
  have n7 := n6.grown g7 (by intro e; injection e with e; omega)
  have a7 := a3.below H67.out
  clear hz8 o6 b6 k6 n6 a3 H67
  go_wp2_with fail
  rw [HZ8.out, hk]
  have b7 := H7.out
  have a8' := (arg_of_own o7 HM7.out)
  clear hc8 hf8 g7 H7 hk o7
  generalize w6.setCell ⟨gc, a8, none⟩ (.int .u8 z8) = w7 at *
  have hq := HSB.out
  obtain ⟨us, hus⟩ : ∃ us, zs.set a8 z8 = us := ⟨_, rfl⟩
  rw [hus] at a8' HM7
  clear hus hq HZ8 hwz T8 R8 ha8m ha80 hr80 HA8
  have lk := k7.lt
  have ln := n7.lt
  obtain ⟨x32, hx32⟩ : ∃ x, key.getD r32 0 = x := ⟨_, rfl⟩
  obtain ⟨x12, hx12⟩ : ∃ x, nonce.getD r12 0 = x := ⟨_, rfl⟩
  obtain ⟨y32, hy32⟩ : ∃ y, bits .xor .u8 x32 other = y := ⟨_, rfl⟩
  obtain ⟨y12, hy12⟩ : ∃ y, bits .xor .u8 x12 other = y := ⟨_, rfl⟩
  have HW32 := Lib.hid (show (Lit.int .u8 y32).wf = true by rw [← hy32]; exact wf_bits _ _ _ _)
  have HW12 := Lib.hid (show (Lit.int .u8 y12).wf = true by rw [← hy12]; exact wf_bits _ _ _ _)
  have HX32 := Lib.hid hx32
  have HX12 := Lib.hid hx12
  have HY32 := Lib.hid hy32
  have HY12 := Lib.hid hy12
  have HK2 := Lib.hid (show (key.set r32 y32).length = 32 by rw [List.length_set, HK.out])
  have HN2 := Lib.hid (show (nonce.set r12 y12).length = 12 by rw [List.length_set, HN.out])
  have hkb2 : Bs (key.set r32 y32) := fun z hz => by
    rcases List.mem_or_eq_of_mem_set hz with h1 | h1
    · exact hkb z h1
    · rw [h1]; exact wf_u8 HW32.out
  have hnb2 : Bs (nonce.set r12 y12) := fun z hz => by
    rcases List.mem_or_eq_of_mem_set hz with h1 | h1
    · exact hnb z h1
    · rw [h1]; exact wf_u8 HW12.out
  clear hx32 hx12 hy32 hy12
  refine wp_region_held (S := fun W => Below w7.heap.size w7 W) (by kernel_rfl) ?_
  change wpAnyH _ _ _ _ _ _ _ _ w7.drew
  have c0 := (Below.refl w7.heap.size w7).drew
  refine Held.take (v := .agg (arr .u8 key)) 0 (some 97) rfl rfl (by kernel_rfl) (by kernel_rfl) (by kernel_rfl) (fun _ _ _ h => h) rfl (Held.y_load_Row (zs := key) rfl rfl Tryd.underlying22 size_32b HK.out (fun W hW => k7.below hW k7.lt)) c0 ?_
  simp only [Act.put, List.setIfInBounds_toArray, List.set_cons_zero, List.set_cons_succ]
  refine Held.take (v := .agg (arr .u8 nonce)) 1 (some 98) rfl rfl (by kernel_rfl) (by kernel_rfl) (by kernel_rfl) (fun _ _ _ h => h) rfl (Held.y_load_Row (zs := nonce) rfl rfl Tryd.underlying23 size_12b HN.out (fun W hW => n7.below hW n7.lt)) c0 ?_
  simp only [Act.put, List.setIfInBounds_toArray, List.set_cons_zero, List.set_cons_succ]
  refine Held.two 2 3 (by kernel_rfl) ?oa ?ob
  case' oa =>
    refine Held.op_alloc_Row 2 (some 22) 22 .u8 32 rfl rfl rfl rfl zero_32b ?_
    intro g2 wA p2 bA h2
    have cA := c0.trans (bA.mono c0.size)
    have q2 : w7.heap.size ≤ g2 := Nat.le_trans c0.size h2.out
    have t2 := p2.lt
    refine ⟨cA, ?_⟩
    simp only [Act.put, List.setIfInBounds_toArray, List.set_cons_zero, List.set_cons_succ]
    refine Held.one 3 (by kernel_rfl) ?_
    refine Held.op_alloc_Row 3 (some 23) 23 .u8 12 rfl rfl rfl rfl zero_12b ?_
    intro g3 wB p3 bB h3
    have cB := cA.trans (bB.mono cA.size)
    have q3 : w7.heap.size ≤ g3 := Nat.le_trans cA.size h3.out
    have hne : g2 ≠ g3 := by have := h3.out; omega
    have p2 := p2.below bB p2.lt
    refine ⟨cB, ?_⟩
    simp only [Act.put, List.setIfInBounds_toArray, List.set_cons_zero, List.set_cons_succ]
    refine Held.one 4 (by kernel_rfl) ?_
    refine Held.op_store_RowL 4 none 22 g2 22 .u8 _ key rfl rfl rfl rfl rfl rfl p2 32 size_32b HK.out (by simp) (bs_wf hkb) ?_
    intro wC p2 gC
    have p3 := p3.grown gC (by intro e; injection e with e; exact hne e.symm)
    have cC := cB.grown gC cB.size (fun r e => by cases e; exact q2)
    refine ⟨cC, ?_⟩
    simp only [Act.put]
    refine Held.one 5 (by kernel_rfl) ?_
    refine Held.op_store_RowL 5 none 23 g3 23 .u8 _ nonce rfl rfl rfl rfl rfl rfl p3 12 size_12b HN.out (by simp) (bs_wf hnb) ?_
    intro w9 p3 gD
    have p2 := p2.grown gD (by intro e; injection e with e; exact hne e)
    have c9 := cC.grown gD cC.size (fun r e => by cases e; exact q3)
    refine ⟨c9, ?_⟩
    simp only [Act.put]
    refine wpAnyH_done (by kernel_rfl) ?_ _
    clear bA bB cA cB cC gC gD h2 h3 c0
  case' ob =>
    refine Held.op_alloc_Row 3 (some 23) 23 .u8 12 rfl rfl rfl rfl zero_12b ?_
    intro g3 wA p3 bA h3
    have cA := c0.trans (bA.mono c0.size)
    have q3 : w7.heap.size ≤ g3 := Nat.le_trans c0.size h3.out
    have t3 := p3.lt
    refine ⟨cA, ?_⟩
    simp only [Act.put, List.setIfInBounds_toArray, List.set_cons_zero, List.set_cons_succ]
    refine Held.one 2 (by kernel_rfl) ?_
    refine Held.op_alloc_Row 2 (some 22) 22 .u8 32 rfl rfl rfl rfl zero_32b ?_
    intro g2 wB p2 bB h2
    have cB := cA.trans (bB.mono cA.size)
    have q2 : w7.heap.size ≤ g2 := Nat.le_trans cA.size h2.out
    have hne : g2 ≠ g3 := by have := h2.out; omega
    have p3 := p3.below bB p3.lt
    refine ⟨cB, ?_⟩
    simp only [Act.put, List.setIfInBounds_toArray, List.set_cons_zero, List.set_cons_succ]
    refine Held.one 4 (by kernel_rfl) ?_
    refine Held.op_store_RowL 4 none 22 g2 22 .u8 _ key rfl rfl rfl rfl rfl rfl p2 32 size_32b HK.out (by simp) (bs_wf hkb) ?_
    intro wC p2 gC
    have p3 := p3.grown gC (by intro e; injection e with e; exact hne e.symm)
    have cC := cB.grown gC cB.size (fun r e => by cases e; exact q2)
    refine ⟨cC, ?_⟩
    simp only [Act.put]
    refine Held.one 5 (by kernel_rfl) ?_
    refine Held.op_store_RowL 5 none 23 g3 23 .u8 _ nonce rfl rfl rfl rfl rfl rfl p3 12 size_12b HN.out (by simp) (bs_wf hnb) ?_
    intro w9 p3 gD
    have p2 := p2.grown gD (by intro e; injection e with e; exact hne e)
    have c9 := cC.grown gD cC.size (fun r e => by cases e; exact q3)
    refine ⟨c9, ?_⟩
    simp only [Act.put]
    refine wpAnyH_done (by kernel_rfl) ?_ _
    clear bA bB cA cB cC gC gD h2 h3 c0
  all_goals
    have h57 := a7.2.1
    have b9 := b7.trans (c9.mono b7.size)
    have k9 := k7.below c9 k7.lt
    have n9 := n7.below c9 n7.lt
    have a9 := a7.below (c9.mono a7.2.1)
    have u9 := a8'.below c9
    have hx9 := c9.size
    have cl2 := p2.cell (i := r32) (by rw [HK.out]; omega)
    have cl3 := p3.cell (i := r12) (by rw [HN.out]; omega)
    rw [HX32.out] at cl2
    rw [HX12.out] at cl3
    have hy32 := HY32.out
    have hy12 := HY12.out
    have hr3i : (r32 : Int) < 32 := by omega
    have hr1i : (r12 : Int) < 12 := by omega
    have hr30 : (0 : Int) ≤ (r32 : Int) := by omega
    have hr10 : (0 : Int) ≤ (r12 : Int) := by omega
    clear c9 k7 n7 b7 a7 a8'
    go_wp2_with (first
      | (refine wpList_store_elem (w := w9) rfl 5 _ _ rfl g2 r32 rfl 22 .u8 _ y32 rfl p2 (by rw [HK.out]; omega) size_1b HW32.out ?_; intro wc pc2 gc2 zc2; have pc3 := p3.grown gc2 (by intro e; injection e with e; exact hne e.symm); have cm3 := (World.cell?_of_block (w := w9) (w' := wc) (a := ⟨g3, r12, none⟩) (gc2.block g3 p3.lt (by intro e; injection e with e; exact hne e.symm))).trans cl3)
      | (refine wpList_store_elem (w := wc) rfl 5 _ _ rfl g3 r12 rfl 23 .u8 _ y12 rfl pc3 (by rw [HN.out]; omega) size_1b HW12.out ?_; intro wd pd3 gd3 zd3))
    have pd2 := pc2.grown gd3 (by intro e; injection e with e; exact hne e)
    have h9d : Below w7.heap.size w9 wd := ((Below.refl _ w9).grown gc2 hx9 (fun r e => by cases e; exact q2)).grown gd3 (Nat.le_trans hx9 gc2.size) (fun r e => by cases e; exact q3)
    have hD := b9.trans (h9d.mono (by omega))
    have kD := k9.below h9d lk
    have nD := n9.below h9d ln
    have fD := a9.below (h9d.mono (by omega))
    have uD := u9.below h9d
    have aD := h.below hD
    have hsD := hD.size
    have HX := Lib.hid h.len
    clear p2 p3 cl2 cl3 cm3 pc2 pc3 gc2 gd3 zc2 zd3 k9 n9 a9 u9 b9 h9d hy32 hy12 R32 R12 HX32 HX12 HY32 HY12
    obtain ⟨t, -, htm, ht⟩ := cut_at cut (m : Int) (by omega) (by omega)
    have htm : t ≤ m := by omega
    have HR := Lib.hid ht
    have hRt : IntKind.i64.wrap (t : Int) = (t : Int) := by rw [IntKind.wrap_i64]; omega
    have hmw : IntKind.u64.wrap (m : Int) = (m : Int) := by rw [IntKind.wrap_u64]; omega
    have hm0 : (m : Int) ≠ 0 := by omega
    have hst := fun W : World => run_front (P := Tryd.prog) (n := m) (cap := c3) (h := t) Tryd.underlying24 size_1b fD.2.2.1 (Nat.le_trans htm fD.2.2.2.1) W
    clear ht
    refine wp_region_held (S := fun W => Below wd.heap.size wd W) (by kernel_rfl) ?_
    change wpAnyH _ _ _ _ _ _ _ _ wd.drew
    have c0_0 := (Below.refl wd.heap.size wd).drew
    refine Held.take (v := .func (.func 19) #[] #[]) 0 (some 117) rfl rfl (by kernel_rfl) (by kernel_rfl) (by kernel_rfl) (fun _ _ _ h => h) rfl (Held.y_move rfl rfl) c0_0 ?_
    simp only [Act.put, List.setIfInBounds_toArray, List.set_cons_zero, List.set_cons_succ]
    refine Held.take (v := .agg (arr .u8 key)) 1 (some 118) rfl rfl (by kernel_rfl) (by kernel_rfl) (by kernel_rfl) (fun _ _ _ h => h) rfl (Held.y_load_Row (zs := key) rfl rfl Tryd.underlying22 size_32b HK.out (fun W hW => Row.below kD hW kD.lt)) c0_0 ?_
    simp only [Act.put, List.setIfInBounds_toArray, List.set_cons_zero, List.set_cons_succ]
    refine Held.take (v := .agg (arr .u8 nonce)) 2 (some 119) rfl rfl (by kernel_rfl) (by kernel_rfl) (by kernel_rfl) (fun _ _ _ h => h) rfl (Held.y_load_Row (zs := nonce) rfl rfl Tryd.underlying23 size_12b HN.out (fun W hW => Row.below nD hW nD.lt)) c0_0 ?_
    simp only [Act.put, List.setIfInBounds_toArray, List.set_cons_zero, List.set_cons_succ]
    refine Held.take (v := .slice A n c) 3 (some 120) rfl rfl (by kernel_rfl) (by kernel_rfl) (by kernel_rfl) (fun _ _ _ h => h) rfl (Held.y_move rfl rfl) c0_0 ?_
    simp only [Act.put, List.setIfInBounds_toArray, List.set_cons_zero, List.set_cons_succ]
    refine Held.take (v := .slice (some ⟨gc, 0, none⟩) m cc) 4 (some 121) rfl rfl (by kernel_rfl) (by kernel_rfl) (by kernel_rfl) (fun _ _ _ h => h) rfl (Held.y_move rfl rfl) c0_0 ?_
    simp only [Act.put, List.setIfInBounds_toArray, List.set_cons_zero, List.set_cons_succ]
    refine Held.one 5 (by kernel_rfl) ?_
    refine op_callv 5 (some 122) 19 #[.agg (arr .u8 key), .agg (arr .u8 nonce), .slice A n c, .slice (some ⟨gc, 0, none⟩) m cc] rfl rfl rfl rfl rfl (enters_of Tryd.func19 (by kernel_rfl) rfl) (by simp [Act.eval]) (alike_any key nonce A n c xs (some ⟨gc, 0, none⟩) m cc us w.heap.size _ _ _ (hL.below (hD.trans (c0_0.mono hsD))) (hD.trans (c0_0.mono hsD)).size HK.out hkb HN.out hnb (aD.below (c0_0.mono aD.2.1)) (by omega) (uD.below (c0_0.mono uD.2.1)) (by omega)) ?_
    rintro e v1 ⟨rfl, b1⟩
    have c0_1 := c0_0.trans (b1.mono c0_0.size)
    refine ⟨_, rfl, c0_1, ?_⟩
    simp only [Act.put, List.setIfInBounds_toArray, List.set_cons_zero, List.set_cons_succ]
    refine Held.take (v := .bool true) 6 (some 123) rfl rfl (by kernel_rfl) (by kernel_rfl) (by kernel_rfl) (fun _ _ _ h => h) rfl (Held.y_move rfl rfl) c0_1 ?_
    simp only [Act.put, List.setIfInBounds_toArray, List.set_cons_zero, List.set_cons_succ]
    refine Held.take (v := .func (.func 19) #[] #[]) 7 (some 124) rfl rfl (by kernel_rfl) (by kernel_rfl) (by kernel_rfl) (fun _ _ _ h => h) rfl (Held.y_move rfl rfl) c0_1 ?_
    simp only [Act.put, List.setIfInBounds_toArray, List.set_cons_zero, List.set_cons_succ]
    refine Held.take (v := .agg (arr .u8 key)) 8 (some 125) rfl rfl (by kernel_rfl) (by kernel_rfl) (by kernel_rfl) (fun _ _ _ h => h) rfl (Held.y_load_Row (zs := key) rfl rfl Tryd.underlying22 size_32b HK.out (fun W hW => Row.below kD hW kD.lt)) c0_1 ?_
    simp only [Act.put, List.setIfInBounds_toArray, List.set_cons_zero, List.set_cons_succ]
    refine Held.take (v := .agg (arr .u8 nonce)) 9 (some 126) rfl rfl (by kernel_rfl) (by kernel_rfl) (by kernel_rfl) (fun _ _ _ h => h) rfl (Held.y_load_Row (zs := nonce) rfl rfl Tryd.underlying23 size_12b HN.out (fun W hW => Row.below nD hW nD.lt)) c0_1 ?_
    simp only [Act.put, List.setIfInBounds_toArray, List.set_cons_zero, List.set_cons_succ]
    refine Held.take (v := .slice A n c) 10 (some 127) rfl rfl (by kernel_rfl) (by kernel_rfl) (by kernel_rfl) (fun _ _ _ h => h) rfl (Held.y_move rfl rfl) c0_1 ?_
    simp only [Act.put, List.setIfInBounds_toArray, List.set_cons_zero, List.set_cons_succ]
    refine Held.take (v := .slice A3 m c3) 11 (some 128) rfl rfl (by kernel_rfl) (by kernel_rfl) (by kernel_rfl) (fun _ _ _ h => h) rfl (Held.y_move rfl rfl) c0_1 ?_
    simp only [Act.put, List.setIfInBounds_toArray, List.set_cons_zero, List.set_cons_succ]
    refine Held.take (v := .int .i64 cut) 12 (some 129) rfl rfl (by kernel_rfl) (by kernel_rfl) (by kernel_rfl) (fun _ _ _ h => h) rfl (Held.y_move rfl rfl) c0_1 ?_
    simp only [Act.put, List.setIfInBounds_toArray, List.set_cons_zero, List.set_cons_succ]
    refine Held.take (v := .int .u64 (IntKind.u64.wrap cut)) 13 (some 130) rfl rfl (by kernel_rfl) (by kernel_rfl) (by kernel_rfl) (fun _ _ _ h => h) rfl (Held.y_convert rfl rfl (by kernel_rfl) Tryd.underlying35 rfl) c0_1 ?_
    simp only [Act.put, List.setIfInBounds_toArray, List.set_cons_zero, List.set_cons_succ]
    refine Held.take (v := .slice A3 m c3) 14 (some 131) rfl rfl (by kernel_rfl) (by kernel_rfl) (by kernel_rfl) (fun _ _ _ h => h) rfl (Held.y_move rfl rfl) c0_1 ?_
    simp only [Act.put, List.setIfInBounds_toArray, List.set_cons_zero, List.set_cons_succ]
    refine Held.take (v := .int .i64 (m : Int)) 15 (some 132) rfl rfl (by kernel_rfl) (by kernel_rfl) (by kernel_rfl) (fun _ _ _ h => h) rfl (Held.y_len rfl rfl (by kernel_rfl)) c0_1 ?_
    simp only [Act.put, List.setIfInBounds_toArray, List.set_cons_zero, List.set_cons_succ]
    refine Held.take (v := .int .u64 (m : Int)) 16 (some 133) rfl rfl (by kernel_rfl) (by kernel_rfl) (by kernel_rfl) (fun _ _ _ h => h) rfl (Held.y_convert rfl rfl (by kernel_rfl) Tryd.underlying35 hmw) c0_1 ?_
    simp only [Act.put, List.setIfInBounds_toArray, List.set_cons_zero, List.set_cons_succ]
    refine Held.take (v := .int .u64 (t : Int)) 17 (some 134) rfl rfl (by kernel_rfl) (by kernel_rfl) (by kernel_rfl) (fun _ _ _ h => h) rfl (Held.y_int rfl rfl rfl (fun X => Held.run_rem _ _ hm0 HR.out X)) c0_1 ?_
    simp only [Act.put, List.setIfInBounds_toArray, List.set_cons_zero, List.set_cons_succ]
    refine Held.take (v := .int .i64 (t : Int)) 18 (some 135) rfl rfl (by kernel_rfl) (by kernel_rfl) (by kernel_rfl) (fun _ _ _ h => h) rfl (Held.y_convert rfl rfl (by kernel_rfl) Tryd.underlying3 hRt) c0_1 ?_
    simp only [Act.put, List.setIfInBounds_toArray, List.set_cons_zero, List.set_cons_succ]
    refine Held.take (v := .slice A3 t c3) 19 (some 136) rfl rfl (by kernel_rfl) (by kernel_rfl) (by kernel_rfl) (fun _ _ _ h => h) rfl (Held.y_slice rfl hst) c0_1 ?_
    simp only [Act.put, List.setIfInBounds_toArray, List.set_cons_zero, List.set_cons_succ]
    refine Held.one 20 (by kernel_rfl) ?_
    refine op_callv 20 (some 137) 19 #[.agg (arr .u8 key), .agg (arr .u8 nonce), .slice A n c, .slice A3 t c3] rfl rfl rfl rfl rfl (enters_of Tryd.func19 (by kernel_rfl) rfl) (by simp [Act.eval]) (alike_any key nonce A n c xs A3 t c3 (zs.take t) w.heap.size _ _ _ (hL.below (hD.trans (c0_1.mono hsD))) (hD.trans (c0_1.mono hsD)).size HK.out hkb HN.out hnb (aD.below (c0_1.mono aD.2.1)) (by omega) ((fD.front htm).below (c0_1.mono fD.2.1)) (by omega)) ?_
    rintro e v2 ⟨rfl, b2⟩
    have c0_2 := c0_1.trans (b2.mono c0_1.size)
    refine ⟨_, rfl, c0_2, ?_⟩
    simp only [Act.put, List.setIfInBounds_toArray, List.set_cons_zero, List.set_cons_succ]
    refine Held.take (v := .bool true) 21 (some 138) rfl rfl (by kernel_rfl) (by kernel_rfl) (by kernel_rfl) (fun _ _ _ h => h) rfl (Held.y_pick rfl rfl rfl) c0_2 ?_
    simp only [Act.put, List.setIfInBounds_toArray, List.set_cons_zero, List.set_cons_succ]
    refine Held.take (v := .bool true) 22 (some 139) rfl rfl (by kernel_rfl) (by kernel_rfl) (by kernel_rfl) (fun _ _ _ h => h) rfl (Held.y_move rfl rfl) c0_2 ?_
    simp only [Act.put, List.setIfInBounds_toArray, List.set_cons_zero, List.set_cons_succ]
    refine Held.take (v := .func (.func 19) #[] #[]) 23 (some 140) rfl rfl (by kernel_rfl) (by kernel_rfl) (by kernel_rfl) (fun _ _ _ h => h) rfl (Held.y_move rfl rfl) c0_2 ?_
    simp only [Act.put, List.setIfInBounds_toArray, List.set_cons_zero, List.set_cons_succ]
    refine Held.take (v := .agg (arr .u8 key)) 24 (some 141) rfl rfl (by kernel_rfl) (by kernel_rfl) (by kernel_rfl) (fun _ _ _ h => h) rfl (Held.y_load_Row (zs := key) rfl rfl Tryd.underlying22 size_32b HK.out (fun W hW => Row.below kD hW kD.lt)) c0_2 ?_
    simp only [Act.put, List.setIfInBounds_toArray, List.set_cons_zero, List.set_cons_succ]
    refine Held.take (v := .agg (arr .u8 nonce)) 25 (some 142) rfl rfl (by kernel_rfl) (by kernel_rfl) (by kernel_rfl) (fun _ _ _ h => h) rfl (Held.y_load_Row (zs := nonce) rfl rfl Tryd.underlying23 size_12b HN.out (fun W hW => Row.below nD hW nD.lt)) c0_2 ?_
    simp only [Act.put, List.setIfInBounds_toArray, List.set_cons_zero, List.set_cons_succ]
    refine Held.take (v := .slice A n c) 26 (some 143) rfl rfl (by kernel_rfl) (by kernel_rfl) (by kernel_rfl) (fun _ _ _ h => h) rfl (Held.y_move rfl rfl) c0_2 ?_
    simp only [Act.put, List.setIfInBounds_toArray, List.set_cons_zero, List.set_cons_succ]
    refine Held.take (v := .int .u8 other) 28 (some 145) rfl rfl (by kernel_rfl) (by kernel_rfl) (by kernel_rfl) (fun _ _ _ h => h) rfl (Held.y_move rfl rfl) c0_2 ?_
    simp only [Act.put, List.setIfInBounds_toArray, List.set_cons_zero, List.set_cons_succ]
    refine Held.take (v := .slice A3 m c3) 31 (some 148) rfl rfl (by kernel_rfl) (by kernel_rfl) (by kernel_rfl) (fun _ _ _ h => h) rfl (Held.y_move rfl rfl) c0_2 ?_
    simp only [Act.put, List.setIfInBounds_toArray, List.set_cons_zero, List.set_cons_succ]
    refine Held.two 27 29 (by kernel_rfl) ?_ ?_
    · refine Held.op_call 27 (some 144) 20 #[.slice A n c] rfl rfl rfl rfl (enters_of Tryd.func20 (by kernel_rfl) rfl) (by simp [Act.eval]) (copy_any w.heap.size A n c xs _ (aD.below (c0_2.mono aD.2.1)).ints (by omega)) ?_
      rintro e v3 ⟨vc, rfl, oc, b3⟩
      have c0_3 := c0_2.trans (b3.mono c0_2.size)
      have hoc := c0_2.size
      have hob := v3.heap.size
      have hbs := b3.size
      refine ⟨_, rfl, c0_3, ?_⟩
      simp only [Act.put, List.setIfInBounds_toArray, List.set_cons_zero, List.set_cons_succ]
      refine Held.one 29 (by kernel_rfl) ?_
      refine Held.op_build_Row 29 (some 146) 24 5 1 .u8 1 [other] rfl rfl rfl rfl Tryd.underlying24 Help.info_u8 (by simp [Act.eval]) rfl (by omega) (by omega) (fun z hz => by rw [List.mem_singleton.1 hz]; exact hot) ?_
      intro p v4 rp b4 hp
      have c0_4 := c0_3.trans (b4.mono c0_3.size)
      have oc := oc.below b4
      have hbs := Nat.le_trans hbs b4.size
      refine ⟨c0_4, ?_⟩
      simp only [Act.put, List.setIfInBounds_toArray, List.set_cons_zero, List.set_cons_succ]
      refine Held.one 30 (by kernel_rfl) ?_
      refine Held.op_append_ints 30 (some 147) 24 rfl rfl rfl rfl _ 5 .u8 1 Tryd.underlying24 Help.info_u8 vc xs rfl oc _ (some ⟨p, 0, none⟩) 1 1 [other] rfl (rp.ints (n := 1) (by simp)) (by rw [HX.out]; omega) (by omega) hbs ?_
      intro A5 n5 c5 v5 o5 g5 h51 h52 h53 i5
      have c0_5 := c0_4.grown g5 c0_4.size (fun r e => by have := (oc.2.lt r e).1; omega)
      have hn5 : n5 = n + 1 := by rw [← h53.out, List.length_append, HX.out]; rfl
      subst hn5
      have a5 := arg_of_own o5 h53.out
      refine ⟨c0_5, ?_⟩
      simp only [Act.put, List.setIfInBounds_toArray, List.set_cons_zero, List.set_cons_succ]
      refine Held.one 32 (by kernel_rfl) ?_
      refine op_callv 32 (some 149) 19 #[.agg (arr .u8 key), .agg (arr .u8 nonce), .slice A5 (n + 1) c5, .slice A3 m c3] rfl rfl rfl rfl rfl (enters_of Tryd.func19 (by kernel_rfl) rfl) (by simp [Act.eval]) (alike_any key nonce A5 (n + 1) c5 (xs ++ [other]) A3 m c3 zs w.heap.size _ _ _ (hL.below (hD.trans (c0_5.mono hsD))) (hD.trans (c0_5.mono hsD)).size HK.out hkb HN.out hnb (a5) (by omega) (fD.below (c0_5.mono fD.2.1)) (by omega)) ?_
      rintro e v6 ⟨rfl, b6⟩
      have c0_6 := c0_5.trans (b6.mono c0_5.size)
      refine ⟨_, rfl, c0_6, ?_⟩
      simp only [Act.put, List.setIfInBounds_toArray, List.set_cons_zero, List.set_cons_succ]
      refine Held.take (v := .bool true) 33 (some 150) rfl rfl (by kernel_rfl) (by kernel_rfl) (by kernel_rfl) (fun _ _ _ h => h) rfl (Held.y_pick rfl rfl rfl) c0_6 ?_
      simp only [Act.put, List.setIfInBounds_toArray, List.set_cons_zero, List.set_cons_succ]
      refine Held.take (v := .bool true) 34 (some 151) rfl rfl (by kernel_rfl) (by kernel_rfl) (by kernel_rfl) (fun _ _ _ h => h) rfl (Held.y_move rfl rfl) c0_6 ?_
      simp only [Act.put, List.setIfInBounds_toArray, List.set_cons_zero, List.set_cons_succ]
      refine Held.take (v := .func (.func 19) #[] #[]) 35 (some 152) rfl rfl (by kernel_rfl) (by kernel_rfl) (by kernel_rfl) (fun _ _ _ h => h) rfl (Held.y_move rfl rfl) c0_6 ?_
      simp only [Act.put, List.setIfInBounds_toArray, List.set_cons_zero, List.set_cons_succ]
      refine Held.take (v := .agg (arr .u8 (key.set r32 y32))) 36 (some 153) rfl rfl (by kernel_rfl) (by kernel_rfl) (by kernel_rfl) (fun _ _ _ h => h) rfl (Held.y_load_Row (zs := (key.set r32 y32)) rfl rfl Tryd.underlying22 size_32b HK2.out (fun W hW => Row.below pd2 hW pd2.lt)) c0_6 ?_
      simp only [Act.put, List.setIfInBounds_toArray, List.set_cons_zero, List.set_cons_succ]
      refine Held.take (v := .agg (arr .u8 nonce)) 37 (some 154) rfl rfl (by kernel_rfl) (by kernel_rfl) (by kernel_rfl) (fun _ _ _ h => h) rfl (Held.y_load_Row (zs := nonce) rfl rfl Tryd.underlying23 size_12b HN.out (fun W hW => Row.below nD hW nD.lt)) c0_6 ?_
      simp only [Act.put, List.setIfInBounds_toArray, List.set_cons_zero, List.set_cons_succ]
      refine Held.take (v := .slice A n c) 38 (some 155) rfl rfl (by kernel_rfl) (by kernel_rfl) (by kernel_rfl) (fun _ _ _ h => h) rfl (Held.y_move rfl rfl) c0_6 ?_
      simp only [Act.put, List.setIfInBounds_toArray, List.set_cons_zero, List.set_cons_succ]
      refine Held.take (v := .slice A3 m c3) 39 (some 156) rfl rfl (by kernel_rfl) (by kernel_rfl) (by kernel_rfl) (fun _ _ _ h => h) rfl (Held.y_move rfl rfl) c0_6 ?_
      simp only [Act.put, List.setIfInBounds_toArray, List.set_cons_zero, List.set_cons_succ]
      refine Held.one 40 (by kernel_rfl) ?_
      refine op_callv 40 (some 157) 19 #[.agg (arr .u8 (key.set r32 y32)), .agg (arr .u8 nonce), .slice A n c, .slice A3 m c3] rfl rfl rfl rfl rfl (enters_of Tryd.func19 (by kernel_rfl) rfl) (by simp [Act.eval]) (alike_any (key.set r32 y32) nonce A n c xs A3 m c3 zs w.heap.size _ _ _ (hL.below (hD.trans (c0_6.mono hsD))) (hD.trans (c0_6.mono hsD)).size HK2.out hkb2 HN.out hnb (aD.below (c0_6.mono aD.2.1)) (by omega) (fD.below (c0_6.mono fD.2.1)) (by omega)) ?_
      rintro e v7 ⟨rfl, b7⟩
      have c0_7 := c0_6.trans (b7.mono c0_6.size)
      refine ⟨_, rfl, c0_7, ?_⟩
      simp only [Act.put, List.setIfInBounds_toArray, List.set_cons_zero, List.set_cons_succ]
      refine Held.take (v := .bool true) 41 (some 158) rfl rfl (by kernel_rfl) (by kernel_rfl) (by kernel_rfl) (fun _ _ _ h => h) rfl (Held.y_pick rfl rfl rfl) c0_7 ?_
      simp only [Act.put, List.setIfInBounds_toArray, List.set_cons_zero, List.set_cons_succ]
      refine Held.take (v := .bool true) 42 (some 159) rfl rfl (by kernel_rfl) (by kernel_rfl) (by kernel_rfl) (fun _ _ _ h => h) rfl (Held.y_move rfl rfl) c0_7 ?_
      simp only [Act.put, List.setIfInBounds_toArray, List.set_cons_zero, List.set_cons_succ]
      refine Held.take (v := .func (.func 19) #[] #[]) 43 (some 160) rfl rfl (by kernel_rfl) (by kernel_rfl) (by kernel_rfl) (fun _ _ _ h => h) rfl (Held.y_move rfl rfl) c0_7 ?_
      simp only [Act.put, List.setIfInBounds_toArray, List.set_cons_zero, List.set_cons_succ]
      refine Held.take (v := .agg (arr .u8 key)) 44 (some 161) rfl rfl (by kernel_rfl) (by kernel_rfl) (by kernel_rfl) (fun _ _ _ h => h) rfl (Held.y_load_Row (zs := key) rfl rfl Tryd.underlying22 size_32b HK.out (fun W hW => Row.below kD hW kD.lt)) c0_7 ?_
      simp only [Act.put, List.setIfInBounds_toArray, List.set_cons_zero, List.set_cons_succ]
      refine Held.take (v := .agg (arr .u8 (nonce.set r12 y12))) 45 (some 162) rfl rfl (by kernel_rfl) (by kernel_rfl) (by kernel_rfl) (fun _ _ _ h => h) rfl (Held.y_load_Row (zs := (nonce.set r12 y12)) rfl rfl Tryd.underlying23 size_12b HN2.out (fun W hW => Row.below pd3 hW pd3.lt)) c0_7 ?_
      simp only [Act.put, List.setIfInBounds_toArray, List.set_cons_zero, List.set_cons_succ]
      refine Held.take (v := .slice A n c) 46 (some 163) rfl rfl (by kernel_rfl) (by kernel_rfl) (by kernel_rfl) (fun _ _ _ h => h) rfl (Held.y_move rfl rfl) c0_7 ?_
      simp only [Act.put, List.setIfInBounds_toArray, List.set_cons_zero, List.set_cons_succ]
      refine Held.take (v := .slice A3 m c3) 47 (some 164) rfl rfl (by kernel_rfl) (by kernel_rfl) (by kernel_rfl) (fun _ _ _ h => h) rfl (Held.y_move rfl rfl) c0_7 ?_
      simp only [Act.put, List.setIfInBounds_toArray, List.set_cons_zero, List.set_cons_succ]
      refine Held.one 48 (by kernel_rfl) ?_
      refine op_callv 48 (some 165) 19 #[.agg (arr .u8 key), .agg (arr .u8 (nonce.set r12 y12)), .slice A n c, .slice A3 m c3] rfl rfl rfl rfl rfl (enters_of Tryd.func19 (by kernel_rfl) rfl) (by simp [Act.eval]) (alike_any key (nonce.set r12 y12) A n c xs A3 m c3 zs w.heap.size _ _ _ (hL.below (hD.trans (c0_7.mono hsD))) (hD.trans (c0_7.mono hsD)).size HK.out hkb HN2.out hnb2 (aD.below (c0_7.mono aD.2.1)) (by omega) (fD.below (c0_7.mono fD.2.1)) (by omega)) ?_
      rintro e v8 ⟨rfl, b8⟩
      have c0_8 := c0_7.trans (b8.mono c0_7.size)
      refine ⟨_, rfl, c0_8, ?_⟩
      simp only [Act.put, List.setIfInBounds_toArray, List.set_cons_zero, List.set_cons_succ]
      refine Held.take (v := .bool true) 49 (some 166) rfl rfl (by kernel_rfl) (by kernel_rfl) (by kernel_rfl) (fun _ _ _ h => h) rfl (Held.y_pick rfl rfl rfl) c0_8 ?_
      simp only [Act.put, List.setIfInBounds_toArray, List.set_cons_zero, List.set_cons_succ]
      refine Held.take (v := .bool true) 50 (some 14) rfl rfl (by kernel_rfl) (by kernel_rfl) (by kernel_rfl) (fun _ _ _ h => h) rfl (Held.y_assign rfl rfl) c0_8 ?_
      simp only [Act.put, List.setIfInBounds_toArray, List.set_cons_zero, List.set_cons_succ]
      refine wpAnyH_done (by kernel_rfl) ?_ _
      go_wp2_with fail
      go_ret
      exact ⟨rfl, hD.trans (c0_8.mono hsD)⟩
    · refine Held.op_build_Row 29 (some 146) 24 5 1 .u8 1 [other] rfl rfl rfl rfl Tryd.underlying24 Help.info_u8 (by simp [Act.eval]) rfl (by omega) (by omega) (fun z hz => by rw [List.mem_singleton.1 hz]; exact hot) ?_
      intro p v3 rp b3 hp
      have c0_3 := c0_2.trans (b3.mono c0_2.size)
      refine ⟨c0_3, ?_⟩
      simp only [Act.put, List.setIfInBounds_toArray, List.set_cons_zero, List.set_cons_succ]
      refine Held.one 27 (by kernel_rfl) ?_
      refine Held.op_call 27 (some 144) 20 #[.slice A n c] rfl rfl rfl rfl (enters_of Tryd.func20 (by kernel_rfl) rfl) (by simp [Act.eval]) (copy_any w.heap.size A n c xs _ (aD.below (c0_3.mono aD.2.1)).ints (by omega)) ?_
      rintro e v4 ⟨vc, rfl, oc, b4⟩
      have c0_4 := c0_3.trans (b4.mono c0_3.size)
      have hoc := c0_3.size
      have hob := v4.heap.size
      have hbs := b4.size
      have rp := rp.below b4 rp.lt
      refine ⟨_, rfl, c0_4, ?_⟩
      simp only [Act.put, List.setIfInBounds_toArray, List.set_cons_zero, List.set_cons_succ]
      refine Held.one 30 (by kernel_rfl) ?_
      refine Held.op_append_ints 30 (some 147) 24 rfl rfl rfl rfl _ 5 .u8 1 Tryd.underlying24 Help.info_u8 vc xs rfl oc _ (some ⟨p, 0, none⟩) 1 1 [other] rfl (rp.ints (n := 1) (by simp)) (by rw [HX.out]; omega) (by omega) hbs ?_
      intro A5 n5 c5 v5 o5 g5 h51 h52 h53 i5
      have c0_5 := c0_4.grown g5 c0_4.size (fun r e => by have := (oc.2.lt r e).1; omega)
      have hn5 : n5 = n + 1 := by rw [← h53.out, List.length_append, HX.out]; rfl
      subst hn5
      have a5 := arg_of_own o5 h53.out
      refine ⟨c0_5, ?_⟩
      simp only [Act.put, List.setIfInBounds_toArray, List.set_cons_zero, List.set_cons_succ]
      refine Held.one 32 (by kernel_rfl) ?_
      refine op_callv 32 (some 149) 19 #[.agg (arr .u8 key), .agg (arr .u8 nonce), .slice A5 (n + 1) c5, .slice A3 m c3] rfl rfl rfl rfl rfl (enters_of Tryd.func19 (by kernel_rfl) rfl) (by simp [Act.eval]) (alike_any key nonce A5 (n + 1) c5 (xs ++ [other]) A3 m c3 zs w.heap.size _ _ _ (hL.below (hD.trans (c0_5.mono hsD))) (hD.trans (c0_5.mono hsD)).size HK.out hkb HN.out hnb (a5) (by omega) (fD.below (c0_5.mono fD.2.1)) (by omega)) ?_
      rintro e v6 ⟨rfl, b6⟩
      have c0_6 := c0_5.trans (b6.mono c0_5.size)
      refine ⟨_, rfl, c0_6, ?_⟩
      simp only [Act.put, List.setIfInBounds_toArray, List.set_cons_zero, List.set_cons_succ]
      refine Held.take (v := .bool true) 33 (some 150) rfl rfl (by kernel_rfl) (by kernel_rfl) (by kernel_rfl) (fun _ _ _ h => h) rfl (Held.y_pick rfl rfl rfl) c0_6 ?_
      simp only [Act.put, List.setIfInBounds_toArray, List.set_cons_zero, List.set_cons_succ]
      refine Held.take (v := .bool true) 34 (some 151) rfl rfl (by kernel_rfl) (by kernel_rfl) (by kernel_rfl) (fun _ _ _ h => h) rfl (Held.y_move rfl rfl) c0_6 ?_
      simp only [Act.put, List.setIfInBounds_toArray, List.set_cons_zero, List.set_cons_succ]
      refine Held.take (v := .func (.func 19) #[] #[]) 35 (some 152) rfl rfl (by kernel_rfl) (by kernel_rfl) (by kernel_rfl) (fun _ _ _ h => h) rfl (Held.y_move rfl rfl) c0_6 ?_
      simp only [Act.put, List.setIfInBounds_toArray, List.set_cons_zero, List.set_cons_succ]
      refine Held.take (v := .agg (arr .u8 (key.set r32 y32))) 36 (some 153) rfl rfl (by kernel_rfl) (by kernel_rfl) (by kernel_rfl) (fun _ _ _ h => h) rfl (Held.y_load_Row (zs := (key.set r32 y32)) rfl rfl Tryd.underlying22 size_32b HK2.out (fun W hW => Row.below pd2 hW pd2.lt)) c0_6 ?_
      simp only [Act.put, List.setIfInBounds_toArray, List.set_cons_zero, List.set_cons_succ]
      refine Held.take (v := .agg (arr .u8 nonce)) 37 (some 154) rfl rfl (by kernel_rfl) (by kernel_rfl) (by kernel_rfl) (fun _ _ _ h => h) rfl (Held.y_load_Row (zs := nonce) rfl rfl Tryd.underlying23 size_12b HN.out (fun W hW => Row.below nD hW nD.lt)) c0_6 ?_
      simp only [Act.put, List.setIfInBounds_toArray, List.set_cons_zero, List.set_cons_succ]
      refine Held.take (v := .slice A n c) 38 (some 155) rfl rfl (by kernel_rfl) (by kernel_rfl) (by kernel_rfl) (fun _ _ _ h => h) rfl (Held.y_move rfl rfl) c0_6 ?_
      simp only [Act.put, List.setIfInBounds_toArray, List.set_cons_zero, List.set_cons_succ]
      refine Held.take (v := .slice A3 m c3) 39 (some 156) rfl rfl (by kernel_rfl) (by kernel_rfl) (by kernel_rfl) (fun _ _ _ h => h) rfl (Held.y_move rfl rfl) c0_6 ?_
      simp only [Act.put, List.setIfInBounds_toArray, List.set_cons_zero, List.set_cons_succ]
      refine Held.one 40 (by kernel_rfl) ?_
      refine op_callv 40 (some 157) 19 #[.agg (arr .u8 (key.set r32 y32)), .agg (arr .u8 nonce), .slice A n c, .slice A3 m c3] rfl rfl rfl rfl rfl (enters_of Tryd.func19 (by kernel_rfl) rfl) (by simp [Act.eval]) (alike_any (key.set r32 y32) nonce A n c xs A3 m c3 zs w.heap.size _ _ _ (hL.below (hD.trans (c0_6.mono hsD))) (hD.trans (c0_6.mono hsD)).size HK2.out hkb2 HN.out hnb (aD.below (c0_6.mono aD.2.1)) (by omega) (fD.below (c0_6.mono fD.2.1)) (by omega)) ?_
      rintro e v7 ⟨rfl, b7⟩
      have c0_7 := c0_6.trans (b7.mono c0_6.size)
      refine ⟨_, rfl, c0_7, ?_⟩
      simp only [Act.put, List.setIfInBounds_toArray, List.set_cons_zero, List.set_cons_succ]
      refine Held.take (v := .bool true) 41 (some 158) rfl rfl (by kernel_rfl) (by kernel_rfl) (by kernel_rfl) (fun _ _ _ h => h) rfl (Held.y_pick rfl rfl rfl) c0_7 ?_
      simp only [Act.put, List.setIfInBounds_toArray, List.set_cons_zero, List.set_cons_succ]
      refine Held.take (v := .bool true) 42 (some 159) rfl rfl (by kernel_rfl) (by kernel_rfl) (by kernel_rfl) (fun _ _ _ h => h) rfl (Held.y_move rfl rfl) c0_7 ?_
      simp only [Act.put, List.setIfInBounds_toArray, List.set_cons_zero, List.set_cons_succ]
      refine Held.take (v := .func (.func 19) #[] #[]) 43 (some 160) rfl rfl (by kernel_rfl) (by kernel_rfl) (by kernel_rfl) (fun _ _ _ h => h) rfl (Held.y_move rfl rfl) c0_7 ?_
      simp only [Act.put, List.setIfInBounds_toArray, List.set_cons_zero, List.set_cons_succ]
      refine Held.take (v := .agg (arr .u8 key)) 44 (some 161) rfl rfl (by kernel_rfl) (by kernel_rfl) (by kernel_rfl) (fun _ _ _ h => h) rfl (Held.y_load_Row (zs := key) rfl rfl Tryd.underlying22 size_32b HK.out (fun W hW => Row.below kD hW kD.lt)) c0_7 ?_
      simp only [Act.put, List.setIfInBounds_toArray, List.set_cons_zero, List.set_cons_succ]
      refine Held.take (v := .agg (arr .u8 (nonce.set r12 y12))) 45 (some 162) rfl rfl (by kernel_rfl) (by kernel_rfl) (by kernel_rfl) (fun _ _ _ h => h) rfl (Held.y_load_Row (zs := (nonce.set r12 y12)) rfl rfl Tryd.underlying23 size_12b HN2.out (fun W hW => Row.below pd3 hW pd3.lt)) c0_7 ?_
      simp only [Act.put, List.setIfInBounds_toArray, List.set_cons_zero, List.set_cons_succ]
      refine Held.take (v := .slice A n c) 46 (some 163) rfl rfl (by kernel_rfl) (by kernel_rfl) (by kernel_rfl) (fun _ _ _ h => h) rfl (Held.y_move rfl rfl) c0_7 ?_
      simp only [Act.put, List.setIfInBounds_toArray, List.set_cons_zero, List.set_cons_succ]
      refine Held.take (v := .slice A3 m c3) 47 (some 164) rfl rfl (by kernel_rfl) (by kernel_rfl) (by kernel_rfl) (fun _ _ _ h => h) rfl (Held.y_move rfl rfl) c0_7 ?_
      simp only [Act.put, List.setIfInBounds_toArray, List.set_cons_zero, List.set_cons_succ]
      refine Held.one 48 (by kernel_rfl) ?_
      refine op_callv 48 (some 165) 19 #[.agg (arr .u8 key), .agg (arr .u8 (nonce.set r12 y12)), .slice A n c, .slice A3 m c3] rfl rfl rfl rfl rfl (enters_of Tryd.func19 (by kernel_rfl) rfl) (by simp [Act.eval]) (alike_any key (nonce.set r12 y12) A n c xs A3 m c3 zs w.heap.size _ _ _ (hL.below (hD.trans (c0_7.mono hsD))) (hD.trans (c0_7.mono hsD)).size HK.out hkb HN2.out hnb2 (aD.below (c0_7.mono aD.2.1)) (by omega) (fD.below (c0_7.mono fD.2.1)) (by omega)) ?_
      rintro e v8 ⟨rfl, b8⟩
      have c0_8 := c0_7.trans (b8.mono c0_7.size)
      refine ⟨_, rfl, c0_8, ?_⟩
      simp only [Act.put, List.setIfInBounds_toArray, List.set_cons_zero, List.set_cons_succ]
      refine Held.take (v := .bool true) 49 (some 166) rfl rfl (by kernel_rfl) (by kernel_rfl) (by kernel_rfl) (fun _ _ _ h => h) rfl (Held.y_pick rfl rfl rfl) c0_8 ?_
      simp only [Act.put, List.setIfInBounds_toArray, List.set_cons_zero, List.set_cons_succ]
      refine Held.take (v := .bool true) 50 (some 14) rfl rfl (by kernel_rfl) (by kernel_rfl) (by kernel_rfl) (fun _ _ _ h => h) rfl (Held.y_assign rfl rfl) c0_8 ?_
      simp only [Act.put, List.setIfInBounds_toArray, List.set_cons_zero, List.set_cons_succ]
      refine wpAnyH_done (by kernel_rfl) ?_ _
      go_wp2_with fail
      go_ret
      exact ⟨rfl, hD.trans (c0_8.mono hsD)⟩

theorem walk (z0 : List Int) (z1 : List Int) (a2 : Option Addr) (len2 cap2 : Nat) (z2 : List Int) (a3 : Option Addr) (len3 cap3 : Nat) (z3 : List Int) (a4 : Int) (a5 : Int) (a6 : Int) (w : World) (zl0 : z0.length = 32) (zw0 : ∀ z ∈ z0, (Lit.int .u8 z).wf = true) (zl1 : z1.length = 12) (zw1 : ∀ z ∈ z1, (Lit.int .u8 z).wf = true) (w2 : IsRow .u8 w a2 len2 cap2 z2) (w3 : IsRow .u8 w a3 len3 cap3 z3) (w4 : (Lit.int .i64 a4).wf = true) (w5 : (Lit.int .i64 a5).wf = true) (w6 : (Lit.int .u8 a6).wf = true) (hL : laidMetH Tryd.prog laidList w) :
    Calls Tryd.prog 5 #[.agg (Mem.arr .u8 z0), .agg (Mem.arr .u8 z1), .slice a2 len2 cap2, .slice a3 len3 cap3, .int .i64 a4, .int .i64 a5, .int .u8 a6] w fun e w' => e = .returned (.bool true) ∧ Below w.heap.size w w' := by
  exact start z0 z1 a2 len2 cap2 _ a3 len3 cap3 _ a4 a5 a6 w (laid_of hL) zl0 (Ae.bs_of_wf zw0) zl1 (Ae.bs_of_wf zw1) (arg_of_row w2) (arg_of_row w3) w6

set_option maxRecDepth 100000 in
theorem door_met (os : Os) (args : Array Value) : laidMetH Tryd.prog laidList ((World.doorLaid Tryd.prog 400 os).forCall (fun _ _ => 0) ⟨#[], args, []⟩).memory :=
  laidMetH_of_parts3 (fuel := 8) (laidMet_of_run' 8 (by kernel_rfl) (by kernel_rfl)) (by kernel_rfl) (by kernel_rfl)

set_option maxRecDepth 100000 in
theorem lifted (os : Os) (started : os.Started) (H : Type) (enc : TypeId × Value → H) :
    ReturnsInHanded {} Tryd.checked os 5 .any (fun w args => (Rows.aeadBackSpec.pre enc Tryd.prog Tryd.f5 [] false w args ∧ laidMetH Tryd.prog laidList w) ∧ sizedMet enc Tryd.prog Tryd.f5 (OpenSpec.ofChange Rows.aeadBackSpec) false w args)
      (Rows.aeadBackSpec.post enc Tryd.prog Tryd.f5 false true false false) := by
  refine returnsInHanded_of_change_and (C := Tryd.checked) (X := fun w _ => laidMetH Tryd.prog laidList w) (fun _ _ _ hh h => h.of_heap hh) own started (by kernel_rfl) Tryd.func5
    (ChangeSpec.witness_shaped (enc := enc) (C := Tryd.checked) (os := os) (X := fun w _ => laidMetH Tryd.prog laidList w) false (World.doorLaid Tryd.prog 400 os) #[.agg (Array.replicate 32 (.int .u8 0)), .agg (Array.replicate 12 (.int .u8 0)), .slice none 0 0, .slice none 0 0, .int .i64 0, .int .i64 0, .int .u8 0] 8 rfl (World.shaped_of_RefB (by kernel_rfl) (by kernel_rfl)) (by kernel_rfl) (by kernel_rfl) (by kernel_rfl) (door_met os _)) ?_
  intro W base args ds gs before hval0 hW _ _ hL _
  have hval : ∀ (j : Nat) t v, Tryd.f5.params[j]? = some t → args[j]? = some v → Value.okWide Tryd.prog W .any base t v := hval0
  have hW' := hW
  obtain ⟨p, q, hA0, hV, rfl, hfz, hnd⟩ := hW
  have hA : DataW.TrodAll enc Tryd.prog W 0 (fun _ => true) true Tryd.f5.params.toList args.toList ds p := hA0
  rw [Tryd.params5] at hA hval
  obtain ⟨v0, vs0, d0, ds0, p0, q0, hargs, rfl, rfl, h0, r0⟩ := trodAll_cons hA
  obtain ⟨v1, vs1, d1, ds1, p1, q1, rfl, rfl, rfl, h1, r1⟩ := trodAll_cons r0
  obtain ⟨v2, vs2, d2, ds2, p2, q2, rfl, rfl, rfl, h2, r2⟩ := trodAll_cons r1
  obtain ⟨v3, vs3, d3, ds3, p3, q3, rfl, rfl, rfl, h3, r3⟩ := trodAll_cons r2
  obtain ⟨v4, vs4, d4, ds4, p4, q4, rfl, rfl, rfl, h4, r4⟩ := trodAll_cons r3
  obtain ⟨v5, vs5, d5, ds5, p5, q5, rfl, rfl, rfl, h5, r5⟩ := trodAll_cons r4
  obtain ⟨v6, vs6, d6, ds6, p6, q6, rfl, rfl, rfl, h6, r6⟩ := trodAll_cons r5
  obtain ⟨rfl, rfl, rfl⟩ := trodAll_nil r6
  obtain rfl : args = #[v0, v1, v2, v3, v4, v5, v6] := by cases args; simp_all
  obtain ⟨rfl, rfl⟩ := trodVars_none hV
  have k0 := h0
  have lt0 : ∀ x ∈ p0, x.block < W.heap.size := by obtain ⟨m, hm⟩ := k0; exact DataW.trod_lt m _ _ _ hm
  obtain ⟨z0, rfl, zl0, zw0⟩ := Mem.open_arr Tryd.underlying22 Tryd.underlying5 (by kernel_rfl) (by kernel_rfl) (hval 0 22 v0 rfl rfl) h0
  have k1 := h1
  have lt1 : ∀ x ∈ p1, x.block < W.heap.size := by obtain ⟨m, hm⟩ := k1; exact DataW.trod_lt m _ _ _ hm
  obtain ⟨z1, rfl, zl1, zw1⟩ := Mem.open_arr Tryd.underlying23 Tryd.underlying5 (by kernel_rfl) (by kernel_rfl) (hval 1 23 v1 rfl rfl) h1
  obtain ⟨a2, len2, cap2, rfl⟩ := okWide_slice Tryd.underlying24 (hval 2 24 v2 rfl rfl)
  have k2 := h2
  have lt2 : ∀ x ∈ p2, x.block < W.heap.size := by obtain ⟨m, hm⟩ := k2; exact DataW.trod_lt m _ _ _ hm
  obtain ⟨z2, w2⟩ : ∃ zs, IsRow .u8 W a2 len2 cap2 zs := by
    obtain ⟨fuel, hf⟩ := h2
    rcases open_ints Tryd.underlying24 Tryd.underlying5 (by kernel_rfl) hf with ⟨hcs, _⟩ | ⟨x, l, c, zs, hcs, _, hl, hm, hz, _, hcell, hwz⟩
    · simp [Value.cells] at hcs
      obtain ⟨rfl, rfl, rfl⟩ := hcs
      exact ⟨[], .inl ⟨rfl, rfl, rfl, rfl⟩⟩
    · simp [Value.cells] at hcs
      obtain ⟨rfl, rfl, rfl⟩ := hcs
      exact ⟨zs, .inr ⟨_, rfl, hl, hm, by simpa using hz, hcell, hwz⟩⟩
  obtain ⟨a3, len3, cap3, rfl⟩ := okWide_slice Tryd.underlying24 (hval 3 24 v3 rfl rfl)
  have k3 := h3
  have lt3 : ∀ x ∈ p3, x.block < W.heap.size := by obtain ⟨m, hm⟩ := k3; exact DataW.trod_lt m _ _ _ hm
  obtain ⟨z3, w3⟩ : ∃ zs, IsRow .u8 W a3 len3 cap3 zs := by
    obtain ⟨fuel, hf⟩ := h3
    rcases open_ints Tryd.underlying24 Tryd.underlying5 (by kernel_rfl) hf with ⟨hcs, _⟩ | ⟨x, l, c, zs, hcs, _, hl, hm, hz, _, hcell, hwz⟩
    · simp [Value.cells] at hcs
      obtain ⟨rfl, rfl, rfl⟩ := hcs
      exact ⟨[], .inl ⟨rfl, rfl, rfl, rfl⟩⟩
    · simp [Value.cells] at hcs
      obtain ⟨rfl, rfl, rfl⟩ := hcs
      exact ⟨zs, .inr ⟨_, rfl, hl, hm, by simpa using hz, hcell, hwz⟩⟩
  obtain ⟨a4, rfl, rfl, rfl, w4⟩ := open_int Tryd.underlying3 (hval 4 3 v4 rfl rfl) h4
  obtain ⟨a5, rfl, rfl, rfl, w5⟩ := open_int Tryd.underlying3 (hval 5 3 v5 rfl rfl) h5
  obtain ⟨a6, rfl, rfl, rfl, w6⟩ := open_int Tryd.underlying5 (hval 6 5 v6 rfl rfl) h6
  clear hA0 hval0
  refine (walk z0 z1 a2 len2 cap2 z2 a3 len3 cap3 z3 a4 a5 a6 W zl0 zw0 zl1 zw1 w2 w3 w4 w5 w6 hL).mono fun e W' ⟨he, bel⟩ => ?_
  subst he
  exact ⟨_, rfl, _, _, _, [], _, [], hW', trodAll_mk1 (shut_bool Tryd.underlying4 _), (trodAll_cons_mk (Below.trod laidOut (by kernel_rfl) (of_decide_eq_true (by kernel_rfl)) k0 bel lt0) (trodAll_cons_mk (Below.trod laidOut (by kernel_rfl) (of_decide_eq_true (by kernel_rfl)) k1 bel lt1) (trodAll_cons_mk (Below.trod laidOut (by kernel_rfl) (of_decide_eq_true (by kernel_rfl)) k2 bel lt2) (trodAll_cons_mk (Below.trod laidOut (by kernel_rfl) (of_decide_eq_true (by kernel_rfl)) k3 bel lt3) (trodAll_cons_mk (shut_int Tryd.underlying3 w4) (trodAll_cons_mk (shut_int Tryd.underlying3 w5) (trodAll_cons_mk (shut_int Tryd.underlying5 w6) trodAll_mk0))))))), rfl, bel.frame _, fun h => by cases h⟩

theorem over : Rows.aeadBackRow.holds Tryd.pinned (OpenSpec.ofChange Rows.aeadBackSpec) :=
  OpenClaim.holds_of_wide 5 Tryd.f5 rfl rfl rfl rfl rfl rfl rfl ⟨rfl, rfl, rfl, rfl, rfl⟩ rfl rfl rfl rfl rfl (by kernel_rfl) Tryd.func5 (by kernel_rfl)
    (of_decide_eq_true (by kernel_rfl)) (by unfold Func.isWrapper; first | (rw [if_pos (by decide +kernel)]; kernel_rfl) | (rw [if_neg (by decide +kernel)]; exact ⟨rfl, rfl⟩))
    (fun os started H enc _ => lifted os started H enc)

/-- the statement -/
theorem proved : Rows.AeadBackCardSaid :=
  Claim7.holds_tied_plain_at .later [] [.widerDeep, .data] true (true, "4b84c088017a6d4a2915d281b40e8f4247fc655ca7215a1524322a39d49a7d87") false
    over (fun _ h => by cases h) (by kernel_rfl) (fun _ h => by cases h) aeadBack_row_tie rfl ⟨rfl, rfl⟩ (by kernel_rfl) rfl
    (fun f fn hf hfn => by
      obtain rfl : f = 5 := Option.some.inj ((show Tryd.prog.funcNamed "domino/dominolaw07.AeadBack" = some 5 by kernel_rfl).symm.trans hf) |>.symm
      obtain rfl : fn = Tryd.f5 := (Option.some.inj (Tryd.func5.symm.trans hfn)).symm
      exact ⟨by kernel_rfl, fun j t ht => by
        rw [Tryd.params5] at ht
        have hm : t ∈ [22, 23, 24, 24, 3, 3, 5] := by simpa using Array.mem_of_getElem? ht
        have hall : ([22, 23, 24, 24, 3, 3, 5].all fun u => !Tryd.prog.wantsStandIn u) = true := by kernel_rfl
        exact (show Tryd.prog.wantsStandIn t = false by simpa using List.all_eq_true.1 hall t hm)⟩)
    (by kernel_rfl)
#print axioms proved
end Go.Proofs.YtebcejncjljmhaaDoor.aeadBack
