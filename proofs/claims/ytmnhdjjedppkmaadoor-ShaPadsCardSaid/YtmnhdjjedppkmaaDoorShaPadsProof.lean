/-
  The law ShaPads of package dominolaw02 returns true for every number: what stands behind a message of that many bytes begins with 80, has zeros, and ends with its bits; no shorter one would make whole blocks. The tables of package sha hold what the program's text lays.
-/
import Derived.Test.YtmnhdjjedppkmaaDoorRows
import Derived.Test.YtmnhdjjedppkmaaDoorCards
import Derived.Test.YtmnhdjjedppkmaaDoorTie
import Derived.SevenTiedAt
import Derived.WalkKit
import Derived.ProofKit
import Derived.OpenShut
import Derived.ShutString
import Derived.ChangeOld
import Derived.Below
import Derived.LaidMore
import Derived.Stop.Joined
import Derived.Test.YtmnhdjjedppkmaaDoorAwake2
import Derived.Test.YtmnhdjjedppkmaaDoorLaid
import Derived.Test.YtmnhdjjedppkmaaDoorPad
namespace Go.Proofs.YtmnhdjjedppkmaaDoor.shaPads
open Go.ChangeShapes Go.WideShapes Go.ChangeAt Go.RowKit
open Go.ChangeMaps (open_string shut_string)
open Go.Proofs.YtmnhdjjedppkmaaDoor.Mem Go.Proofs.YtmnhdjjedppkmaaDoor.Help Go.Proofs.YtmnhdjjedppkmaaDoor.Sum Go.Proofs.YtmnhdjjedppkmaaDoor.Sha
set_option linter.unusedVariables false

theorem own : ownKnob Tryd.prog.godebug = none := by kernel_rfl
theorem laidOut : laidOutB Tryd.prog = true := by kernel_rfl

/-- what a slice that came in leads to -/
def IsRow (k : IntKind) (w : World) (a : Option Addr) (len cap : Nat) (zs : List Int) : Prop :=
  (a = none ∧ len = 0 ∧ cap = 0 ∧ zs = []) ∨
  ∃ x, a = some x ∧ len ≤ cap ∧ cap ≤ maxLen ∧ zs.length = cap ∧ (∀ i, i < zs.length → w.cell? (x.add i) = some (.int k (zs.getD i 0))) ∧ ∀ n ∈ zs, (Lit.int k n).wf = true

def laidList : List (String × DataW Unit) := [("domino/sha.start", Rows.laid_domino_sha_start), ("domino/sha.words", Rows.laid_domino_sha_words)]

/-- the highest j of eight bytes -/
def top (n j : Nat) : Nat := 8 * n / 2 ^ (8 * (8 - j))
theorem top_start (n : Nat) (h : n < 1073741824) : top n 0 = 0 := Nat.div_eq_of_lt (by omega)
theorem top_end (n : Nat) : top n 8 = 8 * n := by simp [top]
theorem top_le (n j : Nat) : top n j ≤ 8 * n := Nat.div_le_self _ _
theorem top_step (n : Nat) {j : Nat} (h : j < 8) : top n (j + 1) = top n j * 256 + 8 * n / 2 ^ (56 - 8 * j) % 256 := by
  unfold top
  have e1 : 8 * (8 - (j + 1)) = 56 - 8 * j := by omega
  have e2 : 8 * (8 - j) = (56 - 8 * j) + 8 := by omega
  rw [e1, e2, Nat.pow_add, ← Nat.div_div_eq_div_mul]
  omega
theorem join64 {x y : Int} (hx : 0 ≤ x) (hx' : x < 1099511627776) (hy : 0 ≤ y) (hy' : y ≤ 255) : bits .or .i64 (x * 256) y = x * 256 + y := by
  have hw : ∀ n : Int, 0 ≤ n → n < 2 ^ 63 → IntKind.i64.wrap n = n := fun n h1 h2 => by rw [IntKind.wrap_i64]; omega
  exact bits_join .i64 63 (by decide) hw 8 (x * 256) y (by omega) (by omega) (by omega) (by omega) (by omega) (by omega)

set_option maxRecDepth 100000 in
set_option maxHeartbeats 1000000 in
theorem start (N : Int) (w : World) (hT : Tab w 0 Sum.H0 ∧ Tab w 1 Sum.K) :
    Calls Tryd.prog 7 #[.int .i64 N] w fun e w' => e = .returned (.bool true) ∧ Below w.heap.size w w' := by
  have hq : 0 ≤ IntKind.u64.wrap N := by rw [IntKind.wrap_u64]; omega
  obtain ⟨n, hn⟩ : ∃ n : Nat, wrap64 ((IntKind.u64.wrap N).tmod 1073741824) = (n : Int) := ⟨(IntKind.u64.wrap N % 1073741824).toNat, by rw [Int.tmod_eq_emod_of_nonneg hq]; unfold wrap64; omega⟩
  have hn1 : n < 1073741824 := by rw [Int.tmod_eq_emod_of_nonneg hq] at hn; unfold wrap64 at hn; omega
  have hn0 : (0 : Int) ≤ (n : Int) := by omega
  have hn2 : (n : Int) < 1073741824 := by omega
  clear hq
  go_enter Tryd.func7, Tryd.ntmps7
  go_wp2_with fail
  refine (pad_any (n : Int) n _ (by omega) (by omega)).mono ?_
  rintro e w1 ⟨rfl, hr1, hb1⟩
  obtain ⟨z, hz⟩ : ∃ z, (119 - n % 64) % 64 = z := ⟨_, rfl⟩
  obtain ⟨L, hL⟩ : ∃ L, (padI n).length = L := ⟨_, rfl⟩
  have hLz : L = 9 + z := by rw [← hL, pad_length, hz]
  have hz64 : z < 64 := by omega
  have hmod : (n + L) % 64 = 0 := by rw [← hL]; exact pad_whole n
  have f0 := pad_get_first n
  have fz := fun i => pad_get_zero n (i := i)
  have fl := fun j => pad_get_last n (j := j)
  simp only [hz] at fz fl
  have HL := Lib.hid hL
  have cc : ∀ i, i < L → w1.cell? ⟨w.heap.size, i, none⟩ = some (.int .u8 ((padI n).getD i 0)) := fun i hi => hr1.cell (by rw [HL.out]; exact hi)
  rw [hL]
  have HT := hT
  have s1 := hb1.size
  have rl := hr1.lt
  have c0 := cc 0 (by omega)
  rw [f0] at c0
  have CC := Lib.hid cc
  have FZ := Lib.hid fz
  have FL := Lib.hid fl
  have HM := Lib.hid hmod
  have HLZ := Lib.hid hLz
  have l9 : (9 : Int) ≤ (L : Int) := by omega
  have l72 : (L : Int) ≤ 72 := by omega
  have HN := Lib.hid hn
  clear cc fz fl hmod hL hz f0 hn hr1 hLz
  go_wp2_with fail
  refine (awake2_any _ (HT.1.below hb1 HT.1.lt) (HT.2.below hb1 HT.2.lt)).mono ?_
  rintro e w2 ⟨rfl, hb2⟩
  have c02 := (hb2.cell (p := ⟨w.heap.size, 0, none⟩) rl).trans c0
  have d9 : decide ((L : Int) < 9) = false := by simp; omega
  have d72 : decide ((72 : Int) < (L : Int)) = false := by simp; omega
  rw [HN.out]
  go_wp2_with fail
  have cc2 : ∀ i, i < L → w2.cell? ⟨w.heap.size, i, none⟩ = some (.int .u8 ((padI n).getD i 0)) := fun i hi => (hb2.cell (p := ⟨w.heap.size, i, none⟩) rl).trans (CC.out i hi)
  have CC2 := Lib.hid cc2
  have b2 := hb1.trans (hb2.mono s1)
  clear cc2 hb1 hb2 c0 c02 CC
  go_loop [4, 5] (fun b i => ∃ j : Nat, j ≤ 8 ∧ i = .int .i64 ((1 + z + j : Nat) : Int) ∧ b = .int .i64 (top n j : Int)) (fun _ i => L - (intOf i).toNat)
  case atStart => exact ⟨0, by omega, by have := HLZ.out; congr 1; omega, by rw [top_start n hn1]; rfl⟩
  case round =>
    obtain ⟨j, hj, rfl, rfl⟩ := hrel
    by_cases hlt : j < 8
    · obtain ⟨p, hp⟩ : ∃ p, 1 + z + j = p := ⟨_, rfl⟩
      have c := CC2.out p (by have := HLZ.out; omega)
      have e := FL.out j hlt
      rw [hp] at e
      rw [e] at c
      have T := top_step n hlt
      have ec : ((8 * n : Nat) : Int) / 2 ^ (56 - 8 * j) % 256 = ((8 * n / 2 ^ (56 - 8 * j) % 256 : Nat) : Int) := by push_cast; rfl
      rw [ec] at c
      have tl := top_le n j
      have hy : 8 * n / 2 ^ (56 - 8 * j) % 256 < 256 := Nat.mod_lt _ (by omega)
      generalize 8 * n / 2 ^ (56 - 8 * j) % 256 = y at c T hy
      have HJ := Lib.hid (join64 (x := (top n j : Int)) (y := (y : Int)) (by omega) (by omega) (by omega) (by omega))
      have HT2 := Lib.hid T
      have HP := Lib.hid hp
      rw [hp]
      generalize top n j = tj at HJ HT2 tl ⊢
      have q1 : (p : Int) < (L : Int) := by have := HLZ.out; omega
      have q2 : (tj : Int) ≤ 8589934592 := by omega
      have q0 : (0 : Int) ≤ (tj : Int) := by omega
      have q3 : (y : Int) < 256 := by omega
      clear T hp e ec
      go_wp2_with fail
      rw [HJ.out]
      go_round
      case rel => exact ⟨j + 1, by omega, by have := HP.out; congr 1; omega, by have := HT2.out; congr 1; omega⟩
      case measure => simp [intOf]; omega
    · have hj8 : j = 8 := by omega
      subst hj8
      rw [top_end, show ((8 * n : Nat) : Int) = 8 * (n : Int) by omega]
      have eL : 1 + z + 8 = L := by have := HLZ.out; omega
      rw [eL]
      have em : (((n : Int) + (L : Int)) % 64 == 0) = true := by have := HM.out; have e : ((n : Int) + (L : Int)) % 64 = 0 := by omega
                                                                 rw [e]; rfl
      have EM := Lib.hid em
      clear eL em
      go_wp2_with fail
      go_loop [6] (fun i => ∃ k : Nat, 1 ≤ k ∧ k ≤ 1 + z ∧ i = .int .i64 (k : Int)) (fun i => L - (intOf i).toNat)
      case atStart => exact ⟨1, by omega, by omega, rfl⟩
      case round =>
        obtain ⟨k, hk1, hk2, rfl⟩ := hrel
        have q8 : (L : Int) - 8 = 1 + (z : Int) := by have := HLZ.out; omega
        by_cases hlz : k < 1 + z
        · have c := CC2.out k (by have := HLZ.out; omega)
          rw [FZ.out k hk1 hlz] at c
          have q1 : (k : Int) < (L : Int) := by omega
          have q2 : (k : Int) < 1 + (z : Int) := by omega
          have q0 : (0 : Int) ≤ (k : Int) := by omega
          go_wp2_with fail
          go_round
          case rel => exact ⟨k + 1, by omega, by omega, by go_num⟩
          case measure => have := HLZ.out; simp [intOf]; omega
        · have q2 : ¬ (k : Int) < 1 + (z : Int) := by omega
          have em := EM.out
          go_wp2_with fail
          go_ret
          exact ⟨rfl, b2⟩

theorem walk (a0 : Int) (w : World) (w0 : (Lit.int .i64 a0).wf = true) (hL : laidMetH Tryd.prog laidList w) :
    Calls Tryd.prog 7 #[.int .i64 a0] w fun e w' => e = .returned (.bool true) ∧ Below w.heap.size w w' := by
  exact start a0 w (sha_of_laid hL)

set_option maxRecDepth 100000 in
theorem door_met (os : Os) (args : Array Value) : laidMetH Tryd.prog laidList ((World.doorLaid Tryd.prog 400 os).forCall (fun _ _ => 0) ⟨#[], args, []⟩).memory :=
  laidMetH_of_parts3 (fuel := 8) (laidMet_of_run' 8 (by kernel_rfl) (by kernel_rfl)) (by kernel_rfl) (by kernel_rfl)

set_option maxRecDepth 100000 in
theorem lifted (os : Os) (started : os.Started) (H : Type) (enc : TypeId × Value → H) :
    ReturnsInHanded {} Tryd.checked os 7 .any (fun w args => (Rows.shaPadsSpec.pre enc Tryd.prog Tryd.f7 [] false w args ∧ laidMetH Tryd.prog laidList w) ∧ sizedMet enc Tryd.prog Tryd.f7 (OpenSpec.ofChange Rows.shaPadsSpec) false w args)
      (Rows.shaPadsSpec.post enc Tryd.prog Tryd.f7 false true false false) := by
  refine returnsInHanded_of_change_and (C := Tryd.checked) (X := fun w _ => laidMetH Tryd.prog laidList w) (fun _ _ _ hh h => h.of_heap hh) own started (by kernel_rfl) Tryd.func7
    (ChangeSpec.witness_shaped (enc := enc) (C := Tryd.checked) (os := os) (X := fun w _ => laidMetH Tryd.prog laidList w) false (World.doorLaid Tryd.prog 400 os) #[.int .i64 0] 8 rfl (World.shaped_of_RefB (by kernel_rfl) (by kernel_rfl)) (by kernel_rfl) (by kernel_rfl) (by kernel_rfl) (door_met os _)) ?_
  intro W base args ds gs before hval0 hW _ _ hL _
  have hval : ∀ (j : Nat) t v, Tryd.f7.params[j]? = some t → args[j]? = some v → Value.okWide Tryd.prog W .any base t v := hval0
  have hW' := hW
  obtain ⟨p, q, hA0, hV, rfl, hfz, hnd⟩ := hW
  have hA : DataW.TrodAll enc Tryd.prog W 0 (fun _ => true) true Tryd.f7.params.toList args.toList ds p := hA0
  rw [Tryd.params7] at hA hval
  obtain ⟨v0, vs0, d0, ds0, p0, q0, hargs, rfl, rfl, h0, r0⟩ := trodAll_cons hA
  obtain ⟨rfl, rfl, rfl⟩ := trodAll_nil r0
  obtain rfl : args = #[v0] := by cases args; simp_all
  obtain ⟨rfl, rfl⟩ := trodVars_none hV
  obtain ⟨a0, rfl, rfl, rfl, w0⟩ := open_int Tryd.underlying3 (hval 0 3 v0 rfl rfl) h0
  clear hA0 hval0
  refine (walk a0 W w0 hL).mono fun e W' ⟨he, bel⟩ => ?_
  subst he
  exact ⟨_, rfl, _, _, _, [], _, [], hW', trodAll_mk1 (shut_bool Tryd.underlying4 _), (trodAll_cons_mk (shut_int Tryd.underlying3 w0) trodAll_mk0), rfl, bel.frame _, fun h => by cases h⟩

theorem over : Rows.shaPadsRow.holds Tryd.pinned (OpenSpec.ofChange Rows.shaPadsSpec) :=
  OpenClaim.holds_of_wide 7 Tryd.f7 rfl rfl rfl rfl rfl rfl rfl ⟨rfl, rfl, rfl, rfl, rfl⟩ rfl rfl rfl rfl rfl (by kernel_rfl) Tryd.func7 (by kernel_rfl)
    (of_decide_eq_true (by kernel_rfl)) (by unfold Func.isWrapper; first | (rw [if_pos (by decide +kernel)]; kernel_rfl) | (rw [if_neg (by decide +kernel)]; exact ⟨rfl, rfl⟩))
    (fun os started H enc _ => lifted os started H enc)

/-- the statement -/
theorem proved : Rows.ShaPadsCardSaid :=
  Claim7.holds_tied_plain_at .later [] [.data, .data] true (true, "ae717fbe715afea8b62763525f48aea5a68bc947a94ed7c63125d97ac72252c3") false
    over (fun _ h => by cases h) (by kernel_rfl) (fun _ h => by cases h) shaPads_row_tie rfl ⟨rfl, rfl⟩ (by kernel_rfl) rfl
    (fun f fn hf hfn => by
      obtain rfl : f = 7 := Option.some.inj ((show Tryd.prog.funcNamed "domino/dominolaw02.ShaPads" = some 7 by kernel_rfl).symm.trans hf) |>.symm
      obtain rfl : fn = Tryd.f7 := (Option.some.inj (Tryd.func7.symm.trans hfn)).symm
      exact ⟨by kernel_rfl, fun j t ht => by
        rw [Tryd.params7] at ht
        have hm : t ∈ [3] := by simpa using Array.mem_of_getElem? ht
        have hall : ([3].all fun u => !Tryd.prog.wantsStandIn u) = true := by kernel_rfl
        exact (show Tryd.prog.wantsStandIn t = false by simpa using List.all_eq_true.1 hall t hm)⟩)
    (by kernel_rfl)
#print axioms proved
end Go.Proofs.YtmnhdjjedppkmaaDoor.shaPads
