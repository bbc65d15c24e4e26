/-
  The law BitonicWays of package dominolaw13 returns true for every two numbers: in the last stage all pairs are up; in the first round every other one.
-/
import Derived.Test.YtagcnbcmegdgmaaDoorRows
import Derived.Test.YtagcnbcmegdgmaaDoorCards
import Derived.Test.YtagcnbcmegdgmaaDoorTie
import Derived.SevenTiedAt
import Derived.WalkKit
import Derived.ProofKit
import Derived.OpenShut
import Derived.ShutString
import Derived.ChangeOld
import Derived.Below
import Derived.LaidMore
import Derived.Stop.Joined
import Derived.Test.YtagcnbcmegdgmaaDoorB4
namespace Go.Proofs.YtagcnbcmegdgmaaDoor.bitonicWays
open Go.ChangeShapes Go.WideShapes Go.ChangeAt Go.RowKit
open Go.ChangeMaps (open_string shut_string)
open Go.Shelf Go.Proofs.YtagcnbcmegdgmaaDoor Mem Held Bi
theorem own : ownKnob Tryd.prog.godebug = none := by kernel_rfl
def laidList : List (String × DataW Unit) := [("math/bits.deBruijn32tab", Rows.laid_math_bits_deBruijn32tab), ("math/bits.deBruijn64tab", Rows.laid_math_bits_deBruijn64tab)]
attribute [local irreducible] wpList wpListIn Calls
theorem half_pow {j : Nat} (h : 1 ≤ j) (h2 : j ≤ 16) : IntKind.i64.wrap ((2 ^ j : Int).tdiv 2) = 2 ^ (j - 1) := by
  obtain ⟨q, rfl⟩ : ∃ q, j = q + 1 := ⟨j - 1, by omega⟩
  have := two_pos q
  have := two_16 (show q ≤ 16 by omega)
  rw [two_succ, Int.tdiv_eq_ediv_of_nonneg (by omega), Nat.add_sub_cancel, IntKind.wrap_i64]
  omega
theorem getD_mem' {zs : List Int} {i : Nat} (hi : i < zs.length) : zs.getD i 0 ∈ zs := by
  rw [List.getD_eq_getElem?_getD, List.getElem?_eq_getElem hi]
  exact List.getElem_mem hi
set_option maxRecDepth 100000 in
set_option maxHeartbeats 8000000 in
theorem start (n r : Int) (w : World) (hT : TzT w) :
    Calls Tryd.prog 7 #[.int .i64 n, .int .i64 r] w fun e w' => e = .returned (.bool true) ∧ Below w.heap.size w w' := by
  obtain ⟨N, hN⟩ : ∃ N : Int, IntKind.u64.wrap n = N := ⟨_, rfl⟩
  have hN0 : 0 ≤ N := by rw [← hN, IntKind.wrap_u64]; omega
  obtain ⟨k, hk⟩ : ∃ k : Nat, N % 6 = (k : Int) := ⟨(N % 6).toNat, by omega⟩
  have hk6 : k < 6 := by omega
  have hrem : N.tmod 6 = (k : Int) := by rw [Int.tmod_eq_emod_of_nonneg hN0]; exact hk
  obtain ⟨S, hS⟩ : ∃ S, k + 1 = S := ⟨_, rfl⟩
  have hS1 : 1 ≤ S := by omega
  have hS6 : S ≤ 6 := by omega
  have q1 := two_pos S
  have q2 : (2 : Int) ^ S ≤ 64 := by have := two_mono hS6; simpa using this
  have hsh := fun W : World => Rc.run_shl_ (P := Tryd.prog) 3 .i64 .u64 (a := 2) k (by show k ≤ 64; omega) W
  rw [show (2 : Int) * 2 ^ k = 2 ^ S by rw [← hS, two_succ], show IntKind.i64.wrap (2 ^ S) = 2 ^ S by rw [IntKind.wrap_i64]; omega] at hsh
  have HT1 := Lib.hid (fun (j : Nat) (h : 1 ≤ j) => show (2 : Int) ≤ 2 ^ j by have := two_mono h; simpa using this)
  have HTW := Lib.hid two_pos
  have HTS := Lib.hid (fun j (h : j ≤ 16) => two_16 h)
  have HHP := Lib.hid (fun j (h : 1 ≤ j) (h2 : j ≤ 16) => half_pow h h2)
  have hstg := stg_pow (show S ≤ 16 by omega)
  have HR := rounds_any (2 ^ S) w (by omega) (by omega) hT
  rw [hstg] at HR
  have HA := awake13_any w hT
  have HST := Lib.hid hstg
  have HNN := Lib.hid (two_nat S)
  obtain ⟨M, hM⟩ : ∃ x : Nat, 2 ^ S = x := ⟨_, rfl⟩
  have hNI : (2 : Int) ^ S = (M : Int) := by rw [two_nat, hM]
  rw [hNI] at q1 q2 hsh HR HST HNN
  have HNI := Lib.hid hNI.symm
  have HM := Lib.hid hM.symm
  have hM2 : M ≤ 64 := by omega
  have hT1 := tri_le (show S ≤ 16 by omega)
  obtain ⟨T, hTT⟩ : ∃ T, tri S = T := ⟨_, rfl⟩
  have hTs : T = tri (S - 1) + S := by
    obtain ⟨q, rfl⟩ : ∃ q, S = q + 1 := ⟨S - 1, by omega⟩
    rw [← hTT, tri_succ]; rfl
  rw [hTT] at HR hT1
  obtain ⟨R, hR⟩ : ∃ R : Int, IntKind.u64.wrap r = R := ⟨_, rfl⟩
  have hR0 : 0 ≤ R := by rw [← hR, IntKind.wrap_u64]; omega
  obtain ⟨jn, hjn⟩ : ∃ j : Nat, R % (S : Int) = (j : Int) := ⟨(R % (S : Int)).toNat, by have := Int.emod_nonneg R (show (S : Int) ≠ 0 by omega); omega⟩
  have hjS : jn < S := by have := Int.emod_lt_of_pos R (show (0 : Int) < (S : Int) by omega); omega
  have hrem2 : R.tmod (S : Int) = (jn : Int) := by rw [Int.tmod_eq_emod_of_nonneg hR0]; exact hjn
  have hcS : IntKind.u64.wrap (S : Int) = (S : Int) := by rw [IntKind.wrap_u64]; omega
  obtain ⟨RP, hRP⟩ : ∃ RP : Nat, T - 1 - jn = RP := ⟨_, rfl⟩
  have hRPI : (T : Int) - 1 - (jn : Int) = (RP : Int) := by omega
  have hstM : stg (M : Int) = S := HST.out
  have HF1 : Bi.Found (stg (M : Int)) (RP : Int) S (jn + 1) true := by
    rw [hstM]
    exact .inl ⟨rfl, by omega, by omega, Nat.le_refl _, by omega⟩
  have HF2 : Bi.Found (stg (M : Int)) 0 1 1 true := by
    rw [hstM]
    exact .inl ⟨rfl, by omega, by omega, hS1, by simp [tri]⟩
  have hTpos : 1 ≤ T := by omega
  have hRPb : RP ≤ 136 := by omega
  have P1 := pairs_small HF1
  have P2 := pairs_small HF2
  rw [Int.toNat_natCast] at P1 P2
  have HP1 := Lib.hid (show pairsOf (M : Int) (jn + 1) true = Net.firsts (2 ^ jn) (2 ^ S) by rw [← hNI]; exact pairs_pow (by omega))
  have HP2 := Lib.hid (show pairsOf (M : Int) 1 true = Net.firsts 1 (2 ^ S) by rw [← hNI]; exact pairs_pow (by omega))
  have hU1 := Lib.hid (fun (i : Nat) (hi : i < (pairsOf (M : Int) (jn + 1) true).length) => show upV (M : Int) S (jn + 1) true ((xsOf (pairsOf (M : Int) (jn + 1) true)).getD i 0) = true by
    rw [xsOf_get]
    have hm := getD_mem hi
    generalize (pairsOf (M : Int) (jn + 1) true).getD i 0 = a at *
    rw [HP1.out] at hm
    obtain ⟨h1, h2⟩ := mem_firsts.1 hm
    rw [hM] at h1
    unfold upV
    simp only [Nat.add_sub_cancel, Bool.true_and, Bool.and_eq_true, decide_eq_true_eq]
    refine ⟨⟨⟨by omega, by omega⟩, ?_⟩, ?_⟩
    · rw [two_nat, ← Int.natCast_ediv]; omega
    · rw [hNI, Int.ediv_eq_zero_of_lt (by omega) (by omega)]; rfl)
  have hL2 : (pairsOf (M : Int) 1 true).length = M / 2 := by
    rw [HP2.out]
    have := pairs_length (S := S) (t := 1) (by omega) hS1
    simp only [Nat.sub_self, Nat.pow_zero] at this
    rw [this, hM]
  have hG2 : ∀ q i, i < q → (Net.firsts 1 (2 * q)).getD i 0 = 2 * i := fun q i hi => by
    have : ∀ q, Net.firsts 1 (2 * q) = (List.range q).map (fun i => 2 * i) := fun q => by
      induction q with
      | zero => rfl
      | succ q ih =>
        rw [show 2 * (q + 1) = 2 * q + 1 + 1 by omega, Net.firsts_succ, Net.firsts_succ, ih, List.range_succ, List.map_append]
        rw [if_pos (show 2 * q / 1 % 2 = 0 by omega), if_neg (show ¬ (2 * q + 1) / 1 % 2 = 0 by omega)]
        simp
    rw [this, List.getD_eq_getElem?_getD, List.getElem?_map, List.getElem?_range hi]
    rfl
  have hU2 := Lib.hid (fun (i : Nat) (hi : i < M / 2) => show upV (M : Int) 1 1 true ((xsOf (pairsOf (M : Int) 1 true)).getD i 0) = decide (i % 2 = 0) by
    rw [xsOf_get, HP2.out, hM, show M = 2 * (M / 2) by obtain ⟨q, rfl⟩ : ∃ q, S = q + 1 := ⟨S - 1, by omega⟩; rw [← hM, Nat.pow_succ]; omega, hG2 _ _ hi]
    unfold upV
    simp only [Bool.true_and, Nat.sub_self]
    rw [show decide (0 ≤ ((2 * i : Nat) : Int)) = true by simp; omega, show decide (((2 * i : Nat) : Int) < ((2 * (M / 2) : Nat) : Int)) = true by simp; omega]
    have e1 : decide (((2 * i : Nat) : Int) / 2 ^ 0 % 2 = 0) = true := by simp
    rw [e1]
    simp only [Bool.true_and]
    rw [decide_eq_decide]
    omega)
  have hjc : IntKind.i64.wrap (jn : Int) = (jn : Int) := by rw [IntKind.wrap_i64]; omega
  have hqM : IntKind.i64.wrap ((M : Int).tdiv 2) = ((M / 2 : Nat) : Int) := by rw [Int.tdiv_eq_ediv_of_nonneg (by omega), IntKind.wrap_i64]; omega
  have hqm := fun W : World => Held.run_quo (P := Tryd.prog) 3 .i64 (a := (M : Int)) (b := 2) (r := ((M / 2 : Nat) : Int)) (by omega) hqM W
  obtain ⟨MH, hMH⟩ : ∃ x : Nat, M / 2 = x := ⟨_, rfl⟩
  rw [hMH] at hL2 hU2 hqM hqm
  have hMHb : MH ≤ 64 := by omega
  clear hMH hNI hM hstg hk hTT hjn hTs hRP hG2 hqM HP1 HP2 hstM
  go_enter Tryd.func7, Tryd.ntmps7
  go_wp2_with (first
    | (refine Held.wpList_run (w := w) rfl (v := .int .u64 N) (Held.y_convert (S := fun _ => True) rfl rfl (by kernel_rfl) Tryd.underlying34 hN _ trivial) ?_)
    | (refine Held.wpList_run (w := w) rfl (v := .int .u64 (k : Int)) (y_rem (S := fun _ => True) N 6 rfl rfl rfl (Held.run_rem 34 .u64 (by omega) hrem) _ trivial) ?_)
    | (refine Held.wpList_run (w := w) rfl (v := .int .i64 (M : Int)) (y_shl (S := fun _ => True) 2 (k : Int) rfl rfl rfl hsh _ trivial) ?_))
  go_loopw [5, 6] (fun sv kv wr => ∃ (j q : Nat) (x : Int), sv = .int .i64 (q : Int) ∧ kv = .int .i64 x ∧ Hid (x = 2 ^ j) ∧ j + q = S ∧ w = wr) (fun sv _ _ => 20 - (intOf sv).toNat)
  case atStart => exact ⟨S, 0, (M : Int), rfl, rfl, HNI, by omega, rfl⟩
  case round =>
    obtain ⟨j, q, x, rfl, rfl, hx, hjq, rfl⟩ := hrel
    have k1 := HTW.out j
    have k2 := HTS.out j (by omega)
    rw [← hx.out] at k1 k2
    by_cases hj : 1 ≤ j
    · have hk2 := HT1.out j hj
      rw [← hx.out] at hk2
      have hkk : (1 : Int) < x := by omega
      have hqu := HHP.out j hj (by omega)
      rw [← hx.out] at hqu
      obtain ⟨k3, hk3⟩ : ∃ x : Int, 2 ^ (j - 1) = x := ⟨_, rfl⟩
      rw [hk3] at hqu
      have HK3 := Lib.hid hk3.symm
      have hqr := fun W : World => Held.run_quo (P := Tryd.prog) 3 .i64 (a := x) (b := 2) (r := k3) (by omega) hqu W
      clear hk3 hqu
      go_wp2_with (refine Held.wpList_run (w := w) rfl (v := .int .i64 k3) (y_quo (S := fun _ => True) x 2 rfl rfl rfl hqr _ trivial) ?_)
      go_roundw
      case rel => exact ⟨j - 1, q + 1, k3, by go_num, rfl, HK3, by omega, trivial⟩
      case measure => simp [intOf]; omega
    · have hj0 : j = 0 := by omega
      have hk0 : ¬ (1 : Int) < x := by have := hx.out; rw [hj0] at this; omega
      obtain rfl : q = S := by omega
      clear hj0 hjq hx k1 k2
      go_wp2_with fail
      refine HR.mono ?_
      rintro e w1 ⟨rfl, rfl⟩
      clear HR HNI HNN HHP HTS HTW HT1 hsh hrem
      go_wp2_with (first
        | (refine Held.wpList_run (w := w) rfl (v := .int .u64 R) (Held.y_convert (S := fun _ => True) (k := .i64) (a := r) rfl rfl (by kernel_rfl) Tryd.underlying34 hR _ trivial) ?_)
        | (refine Held.wpList_run (w := w) rfl (v := .int .u64 (q : Int)) (Held.y_convert (S := fun _ => True) (k := .i64) (a := (q : Int)) rfl rfl (by kernel_rfl) Tryd.underlying34 hcS _ trivial) ?_)
        | (refine Held.wpList_run (w := w) rfl (v := .int .u64 (jn : Int)) (y_rem (S := fun _ => True) R (q : Int) rfl rfl rfl (Held.run_rem 34 .u64 (by omega) hrem2) _ trivial) ?_)
        | (refine Held.wpList_run (w := w) rfl (v := .int .i64 (jn : Int)) (Held.y_convert (S := fun _ => True) (k := .u64) (a := (jn : Int)) rfl rfl (by kernel_rfl) Tryd.underlying3 hjc _ trivial) ?_))
      have HS1 := fun (W : World) (bn br : Nat) (hW : Below w.heap.size w W) kn kr => seq2_any bn br M (M : Int) (RP : Int) q (jn + 1) true W (by omega) (by omega) (hT.below hW hT.lt) HF1 kn kr P1.1 (by omega) P1.2.1 P1.2.2
      have HS2 := fun (W : World) (bn br : Nat) (hW : Below w.heap.size w W) kn kr => seq2_any bn br M (M : Int) 0 1 1 true W (by omega) (by omega) (hT.below hW hT.lt) HF2 kn kr P2.1 (by omega) P2.2.1 P2.2.2
      have HU1 := Lib.hid (fun (W : World) (x : Int) (hx : -9223372036854775808 ≤ x ∧ x ≤ 9223372036854775807) (hW : Below w.heap.size w W) => up_any (M : Int) (RP : Int) x (stg (M : Int)) q (jn + 1) true W (by omega) (by omega) hx.1 hx.2 (hT.below hW hT.lt) rfl HF1)
      have HU2 := Lib.hid (fun (W : World) (x : Int) (hx : -9223372036854775808 ≤ x ∧ x ≤ 9223372036854775807) (hW : Below w.heap.size w W) => up_any (M : Int) 0 x (stg (M : Int)) 1 1 true W (by omega) (by omega) hx.1 hx.2 (hT.below hW hT.lt) rfl HF2)
      rw [hL2] at HS2
      generalize hm1 : (pairsOf (M : Int) (jn + 1) true).length = m1 at *
      generalize xsOf (pairsOf (M : Int) (jn + 1) true) = X1 at *
      generalize ysOf (jn + 1) (pairsOf (M : Int) (jn + 1) true) = Y1 at *
      generalize xsOf (pairsOf (M : Int) 1 true) = X2 at *
      generalize ysOf 1 (pairsOf (M : Int) 1 true) = Y2 at *
      have hm1M : m1 ≤ M := P1.1
      clear hm1 P1 P2 HF1 HF2 hL2 hR hrem2 hcS hjc hN hN0 hR0 hk6 HST HM hT
      refine HA.mono ?_
      rintro e w1 ⟨rfl, rfl⟩
      go_wp2_with fail
      refine (round_any (M : Int) (RP : Int) w).mono ?_
      rintro e w1 ⟨bn, br, rfl, kn, kr, _, _, b1⟩
      go_wp2_with fail
      refine (HS1 w1 bn br b1 kn kr).mono ?_
      rintro e w2 ⟨A1, c1, A2, c2, rfl, i1, i2, b2⟩
      have d2 := b1.trans (b2.mono b1.size)
      clear b1 b2 kn kr HS1 HA
      go_wp2_with fail
      refine (round_any (M : Int) 0 w2).mono ?_
      rintro e w3 ⟨bn2, br2, rfl, kn, kr, _, _, b3⟩
      have d3 := d2.trans (b3.mono d2.size)
      go_wp2_with fail
      refine (HS2 w3 bn2 br2 d3 kn kr).mono ?_
      rintro e w4 ⟨A3, c3, A4, c4, rfl, i3, i4, b4⟩
      have d4 := d3.trans (b4.mono d3.size)
      have I1 := i1.below (b3.trans (b4.mono b3.size))
      clear d2 d3 b3 b4 kn kr HS2 i1 i2 i4
      have hw1 := I1.2.1
      have hw3 := i3.2.1
      have hl1 := I1.1
      have hl3 := i3.1
      have HL1 := Lib.hid hl1
      have HL3 := Lib.hid hl3
      clear hl1 hl3
      go_wp2_with (refine Held.wpList_run (w := w4) rfl (v := .int .i64 ((MH : Nat) : Int)) (y_quo (S := fun _ => True) (M : Int) 2 rfl rfl rfl hqm _ trivial) ?_; simp only [Act.put, Z1, Z2, Z3])
      go_loopw [4, 14] (fun x4 iv wr => ∃ i : Nat, x4 = .bool false ∧ i ≤ m1 ∧ iv = .int .i64 (i : Int) ∧ w4 = wr) (fun _ iv _ => m1 - (intOf iv).toNat)
      case atStart => exact ⟨0, rfl, by omega, rfl, rfl⟩
      case round =>
        obtain ⟨i, rfl, him, rfl, rfl⟩ := hrel
        by_cases hlt : i < m1
        · obtain ⟨b, off, rfl, hb, hc⟩ := I1.at_ hlt
          have hx := hw1 _ (getD_mem' (zs := X1) (by rw [HL1.out]; exact hlt))
          have hu := HU1.out w4 _ (rng hx) d4
          rw [hU1.out i hlt] at hu
          generalize X1.getD i 0 = x1 at *
          have hlt' : (i : Int) < (m1 : Int) := by omega
          have hi0 : (0 : Int) ≤ (i : Int) := by omega
          clear hx
          go_wp2_with fail
          refine hu.mono ?_
          rintro e w5 ⟨rfl, rfl⟩
          go_wp2_with fail
          go_roundw
          case rel => exact ⟨i + 1, rfl, by omega, by go_num, trivial⟩
          case measure => simp [intOf]; omega
        · have him1 : i = m1 := by omega
          subst him1
          clear HU1 hU1
          go_wp2_with fail
          go_loopw [4, 15] (fun x4 iv wr => ∃ i : Nat, x4 = .bool false ∧ i ≤ MH ∧ iv = .int .i64 (i : Int) ∧ w4 = wr) (fun _ iv _ => MH - (intOf iv).toNat)
          case atStart => exact ⟨0, rfl, by omega, rfl, rfl⟩
          case round =>
            obtain ⟨i2, rfl, him2, rfl, rfl⟩ := hrel
            by_cases hlt2 : i2 < MH
            · obtain ⟨b, off, rfl, hb, hc⟩ := i3.at_ hlt2
              have hx := hw3 _ (getD_mem' (zs := X2) (by rw [HL3.out]; exact hlt2))
              have hu := HU2.out w4 _ (rng hx) d4
              rw [hU2.out i2 hlt2] at hu
              generalize X2.getD i2 0 = x2 at *
              have hlt' : (i2 : Int) < ((MH : Nat) : Int) := by omega
              have hi0 : (0 : Int) ≤ (i2 : Int) := by omega
              have hrm : (i2 : Int).tmod 2 = ((i2 % 2 : Nat) : Int) := by rw [Int.tmod_eq_emod_of_nonneg (by omega)]; omega
              clear hx
              by_cases hev : i2 % 2 = 0
              · rw [show decide (i2 % 2 = 0) = true by simp [hev]] at hu
                rw [hev] at hrm
                clear hev
                go_wp2_with fail
                refine hu.mono ?_
                rintro e w5 ⟨rfl, rfl⟩
                go_wp2_with (refine Held.wpList_run (w := w4) rfl (v := .int .i64 0) (y_rem (S := fun _ => True) (i2 : Int) 2 rfl rfl rfl (Held.run_rem 3 .i64 (by omega) hrm) _ trivial) ?_)
                go_roundw
                case rel => exact ⟨i2 + 1, rfl, by omega, by go_num, trivial⟩
                case measure => simp [intOf]; omega
              · rw [show decide (i2 % 2 = 0) = false by simp [hev]] at hu
                rw [show i2 % 2 = 1 by omega] at hrm
                clear hev
                go_wp2_with fail
                refine hu.mono ?_
                rintro e w5 ⟨rfl, rfl⟩
                go_wp2_with (refine Held.wpList_run (w := w4) rfl (v := .int .i64 1) (y_rem (S := fun _ => True) (i2 : Int) 2 rfl rfl rfl (Held.run_rem 3 .i64 (by omega) hrm) _ trivial) ?_)
                go_roundw
                case rel => exact ⟨i2 + 1, rfl, by omega, by go_num, trivial⟩
                case measure => simp [intOf]; omega
            · go_wp2_with fail
              go_ret
              exact ⟨rfl, d4⟩
theorem walk (a0 : Int) (a1 : Int) (w : World) (w0 : (Lit.int .i64 a0).wf = true) (w1 : (Lit.int .i64 a1).wf = true) (hL : laidMetH Tryd.prog laidList w) :
    Calls Tryd.prog 7 #[.int .i64 a0, .int .i64 a1] w fun e w' => e = .returned (.bool true) ∧ Below w.heap.size w w' := by
  exact start a0 a1 w (bits_of_laid hL)
set_option maxRecDepth 100000 in
theorem door_met (os : Os) (args : Array Value) : laidMetH Tryd.prog laidList ((World.doorLaid Tryd.prog 400 os).forCall (fun _ _ => 0) ⟨#[], args, []⟩).memory :=
  laidMetH_of_parts3 (fuel := 8) (laidMet_of_run' 8 (by kernel_rfl) (by kernel_rfl)) (by kernel_rfl) (by kernel_rfl)
set_option maxRecDepth 100000 in
theorem lifted (os : Os) (started : os.Started) (H : Type) (enc : TypeId × Value → H) :
    ReturnsInHanded {} Tryd.checked os 7 .any (fun w args => (Rows.bitonicWaysSpec.pre enc Tryd.prog Tryd.f7 [] false w args ∧ laidMetH Tryd.prog laidList w) ∧ sizedMet enc Tryd.prog Tryd.f7 (OpenSpec.ofChange Rows.bitonicWaysSpec) false w args)
      (Rows.bitonicWaysSpec.post enc Tryd.prog Tryd.f7 false true false false) := by
  refine returnsInHanded_of_change_and (C := Tryd.checked) (X := fun w _ => laidMetH Tryd.prog laidList w) (fun _ _ _ hh h => h.of_heap hh) own started (by kernel_rfl) Tryd.func7
    (ChangeSpec.witness_shaped (enc := enc) (C := Tryd.checked) (os := os) (X := fun w _ => laidMetH Tryd.prog laidList w) false (World.doorLaid Tryd.prog 400 os) #[.int .i64 0, .int .i64 0] 8 rfl (World.shaped_of_RefB (by kernel_rfl) (by kernel_rfl)) (by kernel_rfl) (by kernel_rfl) (by kernel_rfl) (door_met os _)) ?_
  intro W base args ds gs before hval0 hW _ _ hL _
  have hval : ∀ (j : Nat) t v, Tryd.f7.params[j]? = some t → args[j]? = some v → Value.okWide Tryd.prog W .any base t v := hval0
  have hW' := hW
  obtain ⟨p, q, hA0, hV, rfl, hfz, hnd⟩ := hW
  have hA : DataW.TrodAll enc Tryd.prog W 0 (fun _ => true) true Tryd.f7.params.toList args.toList ds p := hA0
  rw [Tryd.params7] at hA hval
  obtain ⟨v0, vs0, d0, ds0, p0, q0, hargs, rfl, rfl, h0, r0⟩ := trodAll_cons hA
  obtain ⟨v1, vs1, d1, ds1, p1, q1, rfl, rfl, rfl, h1, r1⟩ := trodAll_cons r0
  obtain ⟨rfl, rfl, rfl⟩ := trodAll_nil r1
  obtain rfl : args = #[v0, v1] := by cases args; simp_all
  obtain ⟨rfl, rfl⟩ := trodVars_none hV
  obtain ⟨a0, rfl, rfl, rfl, w0⟩ := open_int Tryd.underlying3 (hval 0 3 v0 rfl rfl) h0
  obtain ⟨a1, rfl, rfl, rfl, w1⟩ := open_int Tryd.underlying3 (hval 1 3 v1 rfl rfl) h1
  clear hA0 hval0
  refine (walk a0 a1 W w0 w1 hL).mono fun e W' ⟨he, bel⟩ => ?_
  subst he
  exact ⟨_, rfl, _, _, _, [], _, [], hW', trodAll_mk1 (shut_bool Tryd.underlying4 _), (trodAll_cons_mk (shut_int Tryd.underlying3 w0) (trodAll_cons_mk (shut_int Tryd.underlying3 w1) trodAll_mk0)), rfl, bel.frame _, fun h => by cases h⟩
theorem over : Rows.bitonicWaysRow.holds Tryd.pinned (OpenSpec.ofChange Rows.bitonicWaysSpec) :=
  OpenClaim.holds_of_wide 7 Tryd.f7 rfl rfl rfl rfl rfl rfl rfl ⟨rfl, rfl, rfl, rfl, rfl⟩ rfl rfl rfl rfl rfl (by kernel_rfl) Tryd.func7 (by kernel_rfl)
    (of_decide_eq_true (by kernel_rfl)) (by unfold Func.isWrapper; first | (rw [if_pos (by decide +kernel)]; kernel_rfl) | (rw [if_neg (by decide +kernel)]; exact ⟨rfl, rfl⟩))
    (fun os started H enc _ => lifted os started H enc)
theorem proved : Rows.BitonicWaysCardSaid :=
  Claim7.holds_tied_plain_at .later [] [.data, .data] true (true, "fe6b619c45518272eea54a06a8755bdeb49c69dd8d85b33a095b4b463a443c00") false
    over (fun _ h => by cases h) (by kernel_rfl) (fun _ h => by cases h) bitonicWays_row_tie rfl ⟨rfl, rfl⟩ (by kernel_rfl) rfl
    (fun f fn hf hfn => by
      obtain rfl : f = 7 := Option.some.inj ((show Tryd.prog.funcNamed "domino/dominolaw13.BitonicWays" = some 7 by kernel_rfl).symm.trans hf) |>.symm
      obtain rfl : fn = Tryd.f7 := (Option.some.inj (Tryd.func7.symm.trans hfn)).symm
      exact ⟨by kernel_rfl, fun j t ht => by
        rw [Tryd.params7] at ht
        have hm : t ∈ [3, 3] := by simpa using Array.mem_of_getElem? ht
        have hall : ([3, 3].all fun u => !Tryd.prog.wantsStandIn u) = true := by kernel_rfl
        exact (show Tryd.prog.wantsStandIn t = false by simpa using List.all_eq_true.1 hall t hm)⟩)
    (by kernel_rfl)
#print axioms proved
end Go.Proofs.YtagcnbcmegdgmaaDoor.bitonicWays
