/-
  The law BitonicRounds of package dominolaw13 returns true for every four numbers: how many rounds there are, which pairs each has, and which of them are up, of any number of places; told to stop it stops.
-/
import Derived.Test.YtagcnbcmegdgmaaDoorRows
import Derived.Test.YtagcnbcmegdgmaaDoorCards
import Derived.Test.YtagcnbcmegdgmaaDoorTie
import Derived.SevenTiedAt
import Derived.WalkKit
import Derived.ProofKit
import Derived.OpenShut
import Derived.ShutString
import Derived.ChangeOld
import Derived.Below
import Derived.LaidMore
import Derived.Stop.Joined
import Derived.Test.YtagcnbcmegdgmaaDoorB5
namespace Go.Proofs.YtagcnbcmegdgmaaDoor.bitonicRounds
open Go.ChangeShapes Go.WideShapes Go.ChangeAt Go.RowKit
open Go.ChangeMaps (open_string shut_string)
open Go.Shelf Go.Proofs.YtagcnbcmegdgmaaDoor Mem Held Help Bi
theorem own : ownKnob Tryd.prog.godebug = none := by kernel_rfl
def laidList : List (String × DataW Unit) := [("math/bits.deBruijn32tab", Rows.laid_math_bits_deBruijn32tab), ("math/bits.deBruijn64tab", Rows.laid_math_bits_deBruijn64tab)]
attribute [local irreducible] wpList wpListIn Calls
theorem facts (NN r a stop : Int) (w : World) (hN0 : -9223372036854775808 ≤ NN) (hN1 : NN ≤ 600) (ha : -9223372036854775808 ≤ a ∧ a ≤ 9223372036854775807) (hT : TzT w) :
    ∃ (V R P : Int) (U ok : Bool) (m : Nat) (X Y : List Int) (D : Int) (G : Int → Bool),
      (∀ W, Below w.heap.size w W → Calls Tryd.prog 11 #[] W fun e w' => e = .returned (.bool true) ∧ W = w') ∧
      (∀ W, Below w.heap.size w W → Calls Tryd.prog 12 #[.int .i64 NN] W fun e w' => e = .returned (.int .i64 R) ∧ W = w') ∧
      (∀ W, Calls Tryd.prog 13 #[.int .i64 NN] W fun e w' => e = .returned (.int .i64 R) ∧ W = w') ∧
      (∀ W, Calls Tryd.prog 14 #[.int .i64 NN] W fun e w' => e = .returned (.int .i64 P) ∧ W = w') ∧
      (∀ W, Calls Tryd.prog 15 #[.int .i64 NN] W fun e w' => e = .returned (.int .i64 P) ∧ W = w') ∧
      (∀ W x, -9223372036854775808 ≤ x ∧ x ≤ 9223372036854775807 → Below w.heap.size w W → Calls Tryd.prog 17 #[.int .i64 NN, .int .i64 r, .int .i64 x] W fun e w' => e = .returned (.bool (G x)) ∧ W = w') ∧
      (∀ W x, -9223372036854775808 ≤ x ∧ x ≤ 9223372036854775807 → Calls Tryd.prog 18 #[.int .i64 NN, .int .i64 r, .int .i64 x] W fun e w' => e = .returned (.bool (G x)) ∧ W = w') ∧
      (∀ W bn br, Below w.heap.size w W → Blk W bn 3 #[.int .i64 NN] → Blk W br 3 #[.int .i64 r] → Calls Tryd.prog 9 #[.func (.func 20) #[] #[.pointer (some ⟨bn, 0, none⟩), .pointer (some ⟨br, 0, none⟩)], .int .i64 600] W fun e w' =>
        ∃ A1 c1 A2 c2, e = .returned (.tuple #[.slice A1 m c1, .slice A2 m c2, .bool true]) ∧ Ints w' .i64 w'.heap.size A1 m X ∧ Ints w' .i64 w'.heap.size A2 m Y ∧ Below W.heap.size W w') ∧
      (∀ W, Calls Tryd.prog 10 #[.int .i64 NN, .int .i64 r] W fun e w' => ∃ A c, e = .returned (.tuple #[.slice A m c, .int .i64 D]) ∧ Ints w' .i64 w'.heap.size A m X ∧ Below W.heap.size W w') ∧
      (∀ W bn br (K : Nat), Below w.heap.size w W → Blk W bn 3 #[.int .i64 NN] → Blk W br 3 #[.int .i64 r] → 1 ≤ K → K ≤ 70000 → Calls Tryd.prog 19 #[.func (.func 20) #[] #[.pointer (some ⟨bn, 0, none⟩), .pointer (some ⟨br, 0, none⟩)], .int .i64 (K : Int)] W fun e w' =>
        e = .returned (.int .i64 ((min K m : Nat) : Int)) ∧ Below W.heap.size W w') ∧
      m ≤ 600 ∧ (∀ i, i < m → Y.getD i 0 = X.getD i 0 + D ∧ IntKind.i64.wrap (X.getD i 0 + D) = X.getD i 0 + D ∧ (-9223372036854775808 ≤ X.getD i 0 ∧ X.getD i 0 ≤ 9223372036854775807)) := by
  obtain ⟨s, t, ok, HF⟩ := found_exists (stg NN) r
  have P1 := pairs_small HF
  have hX := fun i => xsOf_get (pairsOf NN t ok) i
  have hY := fun i (hi : i < (pairsOf NN t ok).length) => ysOf_get t (pairsOf NN t ok) hi
  refine ⟨0, tri (stg NN), padV NN, false, ok, (pairsOf NN t ok).length, xsOf (pairsOf NN t ok), ysOf t (pairsOf NN t ok), if ok then 2 ^ (t - 1) else 0, upV NN s t ok, ?_, ?_, ?_, ?_, ?_, ?_, ?_, ?_, ?_, ?_, ?_, ?_⟩
  · exact fun W hW => awake13_any W (hT.below hW hT.lt)
  · exact fun W hW => rounds_any NN W hN0 (by omega) (hT.below hW hT.lt)
  · exact fun W => rrounds_any NN W hN0 (by omega)
  · exact fun W => padded_any NN W hN0 (by omega)
  · exact fun W => rpadded_any NN W hN0 (by omega)
  · exact fun W x hx hW => up_any NN r x (stg NN) s t ok W hN0 (by omega) hx.1 hx.2 (hT.below hW hT.lt) rfl HF
  · exact fun W x hx => rup_any NN r x s t ok W hN0 (by omega) hx.1 hx.2 HF
  · exact fun W bn br hW kn kr => seq2_any bn br 600 NN r s t ok W hN0 (by omega) (hT.below hW hT.lt) HF kn kr (by have := P1.1; omega) (by omega) P1.2.1 P1.2.2
  · exact fun W => rround_any NN r s t ok W hN0 (by omega) HF
  · exact fun W bn br K hW kn kr hK hK2 => stops_any bn br K NN r s t ok W hN0 (by omega) (hT.below hW hT.lt) HF kn kr hK hK2
  · have := P1.1; omega
  · intro i hi
    have hok : ok = true := by
      cases ok with
      | true => rfl
      | false => simp [pairsOf] at hi
    have hm := P1.2.1 _ (getD_mem hi)
    have h1 := two_pos (t - 1)
    have h2 := two_16 (show t - 1 ≤ 16 by omega)
    rw [hX, hY i hi, hok, if_pos rfl, IntKind.wrap_i64]
    generalize (2 : Int) ^ (t - 1) = D at *
    rw [hok] at hm
    generalize (pairsOf NN t true).getD i 0 = x at *
    omega
theorem y_add {P : Program} {S : World → Prop} {ρ : Operand → Value} {o : Oper} {t ty : TypeId} {x y : Operand} {k : IntKind} {r : Int} (a b : Int) (ho : o.op = .binOp .add t x y ty) (hx : ρ x = .int k a) (hy : ρ y = .int k b) (hr : k.wrap (a + b) = r) : ∀ w, S w → (execOp ρ o).run P w = .ok (.value (.int k r)) w := Held.y_int ho hx hy (Held.run_add t k hr)
set_option maxRecDepth 100000 in
set_option maxHeartbeats 16000000 in
theorem start (n r a stop : Int) (w : World) (hn : -9223372036854775808 ≤ n ∧ n ≤ 9223372036854775807) (ha : -9223372036854775808 ≤ a ∧ a ≤ 9223372036854775807) (hT : TzT w) :
    Calls Tryd.prog 3 #[.int .i64 n, .int .i64 r, .int .i64 a, .int .i64 stop] w fun e w' => e = .returned (.bool true) ∧ Below w.heap.size w w' := by
  by_cases hbig : 512 < n
  · have hz : n.tmod 2 = n % 2 := Int.tmod_eq_emod_of_nonneg (by omega)
    obtain ⟨z, hzz⟩ : ∃ z, n % 2 = z := ⟨_, rfl⟩
    rw [hzz] at hz
    obtain ⟨NN, hNN⟩ : ∃ x : Int, 512 + z = x := ⟨_, rfl⟩
    have hN0 : -9223372036854775808 ≤ NN := by omega
    have hN1 : NN ≤ 600 := by omega
    have hNw : IntKind.i64.wrap (512 + z) = NN := by rw [IntKind.wrap_i64]; omega
    obtain ⟨_, R, P, _, _, m, X, Y, D, G, FA, FR, FRR, FP, FRP, FU, FRU, FS, FRO, FST, hm6, hXY⟩ := facts NN r a stop w hN0 hN1 ha hT
    have FA := Lib.hid FA
    have FR := Lib.hid FR
    have FRR := Lib.hid FRR
    have FP := Lib.hid FP
    have FRP := Lib.hid FRP
    have FU := Lib.hid FU
    have FRU := Lib.hid FRU
    have FS := Lib.hid FS
    have FRO := Lib.hid FRO
    have FST := Lib.hid FST
    have hXY := Lib.hid hXY
    clear hzz hNN
    go_enter Tryd.func3, Tryd.ntmps3
    go_wp2_with (first
      | (refine Held.wpList_run (w := w) rfl (v := .int .i64 z) (y_rem (S := fun _ => True) n 2 rfl rfl rfl (Held.run_rem 3 .i64 (by omega) hz) _ trivial) ?_)
      | (refine Held.wpList_run (w := w) rfl (v := .int .i64 NN) (y_add (S := fun _ => True) 512 z rfl rfl rfl hNw _ trivial) ?_))
    refine (round_any NN r w).mono ?_
    rintro e w1 ⟨bn, br, rfl, kn, kr, _, _, b1⟩
    go_wp2_with fail
    refine (FS.out w1 bn br b1 kn kr).mono ?_
    rintro e w2 ⟨A1, c1, A2, c2, rfl, i1, i2, b2⟩
    have d2 := b1.trans (b2.mono b1.size)
    have kn2 := kn.after b2
    have kr2 := kr.after b2
    clear b1 b2 kn kr
    go_wp2_with fail
    refine (FRO.out w2).mono ?_
    rintro e w3 ⟨A3, c3, rfl, i3, b3⟩
    have d3 := d2.trans (b3.mono d2.size)
    have I1 := i1.below b3
    have I2 := i2.below b3
    have kn3 := kn2.after b3
    have kr3 := kr2.after b3
    clear kn2 kr2 i1 i2 d2 b3
    go_wp2_with fail
    refine (FA.out w3 d3).mono ?_
    rintro e w4 ⟨rfl, rfl⟩
    go_wp2_with fail
    refine (FR.out w3 d3).mono ?_
    rintro e w4 ⟨rfl, rfl⟩
    go_wp2_with fail
    refine (FRR.out w3).mono ?_
    rintro e w4 ⟨rfl, rfl⟩
    go_wp2_with fail
    refine (FP.out w3).mono ?_
    rintro e w4 ⟨rfl, rfl⟩
    go_wp2_with fail
    refine (FRP.out w3).mono ?_
    rintro e w4 ⟨rfl, rfl⟩
    go_wp2_with fail
    refine (plaini_any _ _ A1 A3 m m c1 c3 X X w3 I1 i3 (by omega) (by omega)).mono ?_
    rw [show decide (X = X) = true by simp]
    rintro e w4 ⟨rfl, st4⟩
    have d4 := d3.trans ((st4.below w3.heap.size).mono d3.size)
    have I2 := st4.ints I2
    have I3 := st4.ints i3
    have kn4 := kn3.after (st4.below _)
    have kr4 := kr3.after (st4.below _)
    clear kn3 kr3 I1 i3 d3 st4 FA FR FRR FP FRP FS FRO
    go_wp2_with fail
    refine (FU.out w4 a ha d4).mono ?_
    rintro e w5 ⟨rfl, rfl⟩
    go_wp2_with fail
    refine (FRU.out w4 a ha).mono ?_
    rintro e w5 ⟨rfl, rfl⟩
    go_wp2_with fail
    go_loopw [8, 15] (fun x8 iv wr => ∃ i : Nat, x8 = .bool false ∧ i ≤ m ∧ iv = .int .i64 (i : Int) ∧ Still w4 wr) (fun _ iv _ => m - (intOf iv).toNat)
    case atStart => exact ⟨0, rfl, by omega, rfl, Still.refl _⟩
    case round =>
      obtain ⟨i, rfl, him, rfl, st⟩ := hrel
      have dr := d4.trans ((st.below w4.heap.size).mono d4.size)
      by_cases hlt : i < m
      · obtain ⟨b, off, rfl, hb, hc⟩ := (st.ints I2).at_ hlt
        obtain ⟨b', off', rfl, hb', hc'⟩ := (st.ints I3).at_ hlt
        obtain ⟨hy, hw, hx⟩ := hXY.out i hlt
        rw [hy] at hc
        clear hy
        generalize X.getD i 0 = x at *
        obtain ⟨y, hyy⟩ : ∃ y : Int, x + D = y := ⟨_, rfl⟩
        have hwy : IntKind.i64.wrap (x + D) = y := by rw [hw, hyy]
        rw [hyy] at hc
        have HX := Lib.hid hx
        have hlt' : (i : Int) < (m : Int) := by omega
        have hi0 : (0 : Int) ≤ (i : Int) := by omega
        clear hw hx hyy
        go_wp2_with fail
        go_quiet (first | (go_at_call 17; exact quiet_same (FU.out _ _ HX.out (Mem.below_drewN dr _))) | (go_at_call 18; exact quiet_same (FRU.out _ _ HX.out)))
        go_wp2_with fail
        go_roundw
        case rel => exact ⟨i + 1, rfl, by omega, by go_num, st.drewN _⟩
        case measure => simp [intOf]; omega
      · obtain rfl : i = m := by omega
        obtain ⟨N, hN⟩ : ∃ N : Int, IntKind.u64.wrap stop = N := ⟨_, rfl⟩
        have hN0 : 0 ≤ N := by rw [← hN, IntKind.wrap_u64]; omega
        obtain ⟨k0, hk0⟩ : ∃ j : Nat, N % ((i : Int) + 1) = (j : Int) := ⟨(N % ((i : Int) + 1)).toNat, by have := Int.emod_nonneg N (show (i : Int) + 1 ≠ 0 by omega); omega⟩
        have hk1 : k0 ≤ i := by have := Int.emod_lt_of_pos N (show (0 : Int) < (i : Int) + 1 by omega); omega
        have hrem : N.tmod ((i : Int) + 1) = (k0 : Int) := by rw [Int.tmod_eq_emod_of_nonneg hN0]; exact hk0
        have hc1 : IntKind.u64.wrap ((i : Int) + 1) = (i : Int) + 1 := by rw [IntKind.wrap_u64]; omega
        have hc2 : IntKind.i64.wrap (k0 : Int) = (k0 : Int) := by rw [IntKind.wrap_i64]; omega
        obtain ⟨K, hK⟩ : ∃ K : Nat, 1 + k0 = K := ⟨_, rfl⟩
        have hKI : IntKind.i64.wrap (1 + (k0 : Int)) = (K : Int) := by rw [IntKind.wrap_i64]; omega
        obtain ⟨Z, hZ⟩ : ∃ Z : Nat, min K i = Z := ⟨_, rfl⟩
        have hmin : (if (i : Int) < (K : Int) then (i : Int) else (K : Int)) = (Z : Int) := by split <;> omega
        have HS := FST.out wr bn br K dr (kn4.after (st.below _)) (kr4.after (st.below _)) (by omega) (by omega)
        rw [hZ] at HS
        clear hk0 hK hZ FST FU FRU hXY I2 I3 kn4 kr4
        go_wp2_with (first
          | (refine Held.wpList_run (w := wr) rfl (v := .int .u64 N) (Held.y_convert (S := fun _ => True) (k := .i64) (a := stop) rfl rfl (by kernel_rfl) Tryd.underlying34 hN _ trivial) ?_)
          | (refine Held.wpList_run (w := wr) rfl (v := .int .u64 ((i : Int) + 1)) (Held.y_convert (S := fun _ => True) (k := .i64) (a := (i : Int) + 1) rfl rfl (by kernel_rfl) Tryd.underlying34 hc1 _ trivial) ?_)
          | (refine Held.wpList_run (w := wr) rfl (v := .int .u64 (k0 : Int)) (y_rem (S := fun _ => True) N ((i : Int) + 1) rfl rfl rfl (Held.run_rem 34 .u64 (by omega) hrem) _ trivial) ?_)
          | (refine Held.wpList_run (w := wr) rfl (v := .int .i64 (k0 : Int)) (Held.y_convert (S := fun _ => True) (k := .u64) (a := (k0 : Int)) rfl rfl (by kernel_rfl) Tryd.underlying3 hc2 _ trivial) ?_)
          | (refine Held.wpList_run (w := wr) rfl (v := .int .i64 (K : Int)) (y_add (S := fun _ => True) 1 (k0 : Int) rfl rfl rfl hKI _ trivial) ?_))
        refine HS.mono ?_
        rintro e w6 ⟨rfl, b6⟩
        go_wp2_with (refine Held.wpList_run (w := w6) rfl (v := .int .i64 (Z : Int)) (Held.y_min (S := fun _ => True) rfl rfl rfl hmin _ trivial) ?_)
        go_ret
        exact ⟨by simp, dr.trans (b6.mono dr.size)⟩
  · obtain ⟨NN, hNN⟩ : ∃ x : Int, n = x := ⟨_, rfl⟩
    subst hNN
    have hbig : ¬ 512 < n := hbig
    have hN0 := hn.1
    have hN1 : n ≤ 600 := by omega
    obtain ⟨_, R, P, _, _, m, X, Y, D, G, FA, FR, FRR, FP, FRP, FU, FRU, FS, FRO, FST, hm6, hXY⟩ := facts n r a stop w hN0 hN1 ha hT
    have FA := Lib.hid FA
    have FR := Lib.hid FR
    have FRR := Lib.hid FRR
    have FP := Lib.hid FP
    have FRP := Lib.hid FRP
    have FU := Lib.hid FU
    have FRU := Lib.hid FRU
    have FS := Lib.hid FS
    have FRO := Lib.hid FRO
    have FST := Lib.hid FST
    have hXY := Lib.hid hXY
    go_enter Tryd.func3, Tryd.ntmps3
    go_wp2_with fail
    refine (round_any n r w).mono ?_
    rintro e w1 ⟨bn, br, rfl, kn, kr, _, _, b1⟩
    go_wp2_with fail
    refine (FS.out w1 bn br b1 kn kr).mono ?_
    rintro e w2 ⟨A1, c1, A2, c2, rfl, i1, i2, b2⟩
    have d2 := b1.trans (b2.mono b1.size)
    have kn2 := kn.after b2
    have kr2 := kr.after b2
    clear b1 b2 kn kr
    go_wp2_with fail
    refine (FRO.out w2).mono ?_
    rintro e w3 ⟨A3, c3, rfl, i3, b3⟩
    have d3 := d2.trans (b3.mono d2.size)
    have I1 := i1.below b3
    have I2 := i2.below b3
    have kn3 := kn2.after b3
    have kr3 := kr2.after b3
    clear kn2 kr2 i1 i2 d2 b3
    go_wp2_with fail
    refine (FA.out w3 d3).mono ?_
    rintro e w4 ⟨rfl, rfl⟩
    go_wp2_with fail
    refine (FR.out w3 d3).mono ?_
    rintro e w4 ⟨rfl, rfl⟩
    go_wp2_with fail
    refine (FRR.out w3).mono ?_
    rintro e w4 ⟨rfl, rfl⟩
    go_wp2_with fail
    refine (FP.out w3).mono ?_
    rintro e w4 ⟨rfl, rfl⟩
    go_wp2_with fail
    refine (FRP.out w3).mono ?_
    rintro e w4 ⟨rfl, rfl⟩
    go_wp2_with fail
    refine (plaini_any _ _ A1 A3 m m c1 c3 X X w3 I1 i3 (by omega) (by omega)).mono ?_
    rw [show decide (X = X) = true by simp]
    rintro e w4 ⟨rfl, st4⟩
    have d4 := d3.trans ((st4.below w3.heap.size).mono d3.size)
    have I2 := st4.ints I2
    have I3 := st4.ints i3
    have kn4 := kn3.after (st4.below _)
    have kr4 := kr3.after (st4.below _)
    clear kn3 kr3 I1 i3 d3 st4 FA FR FRR FP FRP FS FRO
    go_wp2_with fail
    refine (FU.out w4 a ha d4).mono ?_
    rintro e w5 ⟨rfl, rfl⟩
    go_wp2_with fail
    refine (FRU.out w4 a ha).mono ?_
    rintro e w5 ⟨rfl, rfl⟩
    go_wp2_with fail
    go_loopw [8, 15] (fun x8 iv wr => ∃ i : Nat, x8 = .bool false ∧ i ≤ m ∧ iv = .int .i64 (i : Int) ∧ Still w4 wr) (fun _ iv _ => m - (intOf iv).toNat)
    case atStart => exact ⟨0, rfl, by omega, rfl, Still.refl _⟩
    case round =>
      obtain ⟨i, rfl, him, rfl, st⟩ := hrel
      have dr := d4.trans ((st.below w4.heap.size).mono d4.size)
      by_cases hlt : i < m
      · obtain ⟨b, off, rfl, hb, hc⟩ := (st.ints I2).at_ hlt
        obtain ⟨b', off', rfl, hb', hc'⟩ := (st.ints I3).at_ hlt
        obtain ⟨hy, hw, hx⟩ := hXY.out i hlt
        rw [hy] at hc
        clear hy
        generalize X.getD i 0 = x at *
        obtain ⟨y, hyy⟩ : ∃ y : Int, x + D = y := ⟨_, rfl⟩
        have hwy : IntKind.i64.wrap (x + D) = y := by rw [hw, hyy]
        rw [hyy] at hc
        have HX := Lib.hid hx
        have hlt' : (i : Int) < (m : Int) := by omega
        have hi0 : (0 : Int) ≤ (i : Int) := by omega
        clear hw hx hyy
        go_wp2_with fail
        go_quiet (first | (go_at_call 17; exact quiet_same (FU.out _ _ HX.out (Mem.below_drewN dr _))) | (go_at_call 18; exact quiet_same (FRU.out _ _ HX.out)))
        go_wp2_with fail
        go_roundw
        case rel => exact ⟨i + 1, rfl, by omega, by go_num, st.drewN _⟩
        case measure => simp [intOf]; omega
      · obtain rfl : i = m := by omega
        obtain ⟨N, hN⟩ : ∃ N : Int, IntKind.u64.wrap stop = N := ⟨_, rfl⟩
        have hN0 : 0 ≤ N := by rw [← hN, IntKind.wrap_u64]; omega
        obtain ⟨k0, hk0⟩ : ∃ j : Nat, N % ((i : Int) + 1) = (j : Int) := ⟨(N % ((i : Int) + 1)).toNat, by have := Int.emod_nonneg N (show (i : Int) + 1 ≠ 0 by omega); omega⟩
        have hk1 : k0 ≤ i := by have := Int.emod_lt_of_pos N (show (0 : Int) < (i : Int) + 1 by omega); omega
        have hrem : N.tmod ((i : Int) + 1) = (k0 : Int) := by rw [Int.tmod_eq_emod_of_nonneg hN0]; exact hk0
        have hc1 : IntKind.u64.wrap ((i : Int) + 1) = (i : Int) + 1 := by rw [IntKind.wrap_u64]; omega
        have hc2 : IntKind.i64.wrap (k0 : Int) = (k0 : Int) := by rw [IntKind.wrap_i64]; omega
        obtain ⟨K, hK⟩ : ∃ K : Nat, 1 + k0 = K := ⟨_, rfl⟩
        have hKI : IntKind.i64.wrap (1 + (k0 : Int)) = (K : Int) := by rw [IntKind.wrap_i64]; omega
        obtain ⟨Z, hZ⟩ : ∃ Z : Nat, min K i = Z := ⟨_, rfl⟩
        have hmin : (if (i : Int) < (K : Int) then (i : Int) else (K : Int)) = (Z : Int) := by split <;> omega
        have HS := FST.out wr bn br K dr (kn4.after (st.below _)) (kr4.after (st.below _)) (by omega) (by omega)
        rw [hZ] at HS
        clear hk0 hK hZ FST FU FRU hXY I2 I3 kn4 kr4
        go_wp2_with (first
          | (refine Held.wpList_run (w := wr) rfl (v := .int .u64 N) (Held.y_convert (S := fun _ => True) (k := .i64) (a := stop) rfl rfl (by kernel_rfl) Tryd.underlying34 hN _ trivial) ?_)
          | (refine Held.wpList_run (w := wr) rfl (v := .int .u64 ((i : Int) + 1)) (Held.y_convert (S := fun _ => True) (k := .i64) (a := (i : Int) + 1) rfl rfl (by kernel_rfl) Tryd.underlying34 hc1 _ trivial) ?_)
          | (refine Held.wpList_run (w := wr) rfl (v := .int .u64 (k0 : Int)) (y_rem (S := fun _ => True) N ((i : Int) + 1) rfl rfl rfl (Held.run_rem 34 .u64 (by omega) hrem) _ trivial) ?_)
          | (refine Held.wpList_run (w := wr) rfl (v := .int .i64 (k0 : Int)) (Held.y_convert (S := fun _ => True) (k := .u64) (a := (k0 : Int)) rfl rfl (by kernel_rfl) Tryd.underlying3 hc2 _ trivial) ?_)
          | (refine Held.wpList_run (w := wr) rfl (v := .int .i64 (K : Int)) (y_add (S := fun _ => True) 1 (k0 : Int) rfl rfl rfl hKI _ trivial) ?_))
        refine HS.mono ?_
        rintro e w6 ⟨rfl, b6⟩
        go_wp2_with (refine Held.wpList_run (w := w6) rfl (v := .int .i64 (Z : Int)) (Held.y_min (S := fun _ => True) rfl rfl rfl hmin _ trivial) ?_)
        go_ret
        exact ⟨by simp, dr.trans (b6.mono dr.size)⟩
theorem walk (a0 : Int) (a1 : Int) (a2 : Int) (a3 : Int) (w : World) (w0 : (Lit.int .i64 a0).wf = true) (w1 : (Lit.int .i64 a1).wf = true) (w2 : (Lit.int .i64 a2).wf = true) (w3 : (Lit.int .i64 a3).wf = true) (hL : laidMetH Tryd.prog laidList w) :
    Calls Tryd.prog 3 #[.int .i64 a0, .int .i64 a1, .int .i64 a2, .int .i64 a3] w fun e w' => e = .returned (.bool true) ∧ Below w.heap.size w w' := by
  exact start a0 a1 a2 a3 w (rng w0) (rng w2) (bits_of_laid hL)
set_option maxRecDepth 100000 in
theorem door_met (os : Os) (args : Array Value) : laidMetH Tryd.prog laidList ((World.doorLaid Tryd.prog 400 os).forCall (fun _ _ => 0) ⟨#[], args, []⟩).memory :=
  laidMetH_of_parts3 (fuel := 8) (laidMet_of_run' 8 (by kernel_rfl) (by kernel_rfl)) (by kernel_rfl) (by kernel_rfl)
set_option maxRecDepth 100000 in
theorem lifted (os : Os) (started : os.Started) (H : Type) (enc : TypeId × Value → H) :
    ReturnsInHanded {} Tryd.checked os 3 .any (fun w args => (Rows.bitonicRoundsSpec.pre enc Tryd.prog Tryd.f3 [] false w args ∧ laidMetH Tryd.prog laidList w) ∧ sizedMet enc Tryd.prog Tryd.f3 (OpenSpec.ofChange Rows.bitonicRoundsSpec) false w args)
      (Rows.bitonicRoundsSpec.post enc Tryd.prog Tryd.f3 false true false false) := by
  refine returnsInHanded_of_change_and (C := Tryd.checked) (X := fun w _ => laidMetH Tryd.prog laidList w) (fun _ _ _ hh h => h.of_heap hh) own started (by kernel_rfl) Tryd.func3
    (ChangeSpec.witness_shaped (enc := enc) (C := Tryd.checked) (os := os) (X := fun w _ => laidMetH Tryd.prog laidList w) false (World.doorLaid Tryd.prog 400 os) #[.int .i64 0, .int .i64 0, .int .i64 0, .int .i64 0] 8 rfl (World.shaped_of_RefB (by kernel_rfl) (by kernel_rfl)) (by kernel_rfl) (by kernel_rfl) (by kernel_rfl) (door_met os _)) ?_
  intro W base args ds gs before hval0 hW _ _ hL _
  have hval : ∀ (j : Nat) t v, Tryd.f3.params[j]? = some t → args[j]? = some v → Value.okWide Tryd.prog W .any base t v := hval0
  have hW' := hW
  obtain ⟨p, q, hA0, hV, rfl, hfz, hnd⟩ := hW
  have hA : DataW.TrodAll enc Tryd.prog W 0 (fun _ => true) true Tryd.f3.params.toList args.toList ds p := hA0
  rw [Tryd.params3] at hA hval
  obtain ⟨v0, vs0, d0, ds0, p0, q0, hargs, rfl, rfl, h0, r0⟩ := trodAll_cons hA
  obtain ⟨v1, vs1, d1, ds1, p1, q1, rfl, rfl, rfl, h1, r1⟩ := trodAll_cons r0
  obtain ⟨v2, vs2, d2, ds2, p2, q2, rfl, rfl, rfl, h2, r2⟩ := trodAll_cons r1
  obtain ⟨v3, vs3, d3, ds3, p3, q3, rfl, rfl, rfl, h3, r3⟩ := trodAll_cons r2
  obtain ⟨rfl, rfl, rfl⟩ := trodAll_nil r3
  obtain rfl : args = #[v0, v1, v2, v3] := by cases args; simp_all
  obtain ⟨rfl, rfl⟩ := trodVars_none hV
  obtain ⟨a0, rfl, rfl, rfl, w0⟩ := open_int Tryd.underlying3 (hval 0 3 v0 rfl rfl) h0
  obtain ⟨a1, rfl, rfl, rfl, w1⟩ := open_int Tryd.underlying3 (hval 1 3 v1 rfl rfl) h1
  obtain ⟨a2, rfl, rfl, rfl, w2⟩ := open_int Tryd.underlying3 (hval 2 3 v2 rfl rfl) h2
  obtain ⟨a3, rfl, rfl, rfl, w3⟩ := open_int Tryd.underlying3 (hval 3 3 v3 rfl rfl) h3
  clear hA0 hval0
  refine (walk a0 a1 a2 a3 W w0 w1 w2 w3 hL).mono fun e W' ⟨he, bel⟩ => ?_
  subst he
  exact ⟨_, rfl, _, _, _, [], _, [], hW', trodAll_mk1 (shut_bool Tryd.underlying4 _), (trodAll_cons_mk (shut_int Tryd.underlying3 w0) (trodAll_cons_mk (shut_int Tryd.underlying3 w1) (trodAll_cons_mk (shut_int Tryd.underlying3 w2) (trodAll_cons_mk (shut_int Tryd.underlying3 w3) trodAll_mk0)))), rfl, bel.frame _, fun h => by cases h⟩
theorem over : Rows.bitonicRoundsRow.holds Tryd.pinned (OpenSpec.ofChange Rows.bitonicRoundsSpec) :=
  OpenClaim.holds_of_wide 3 Tryd.f3 rfl rfl rfl rfl rfl rfl rfl ⟨rfl, rfl, rfl, rfl, rfl⟩ rfl rfl rfl rfl rfl (by kernel_rfl) Tryd.func3 (by kernel_rfl)
    (of_decide_eq_true (by kernel_rfl)) (by unfold Func.isWrapper; first | (rw [if_pos (by decide +kernel)]; kernel_rfl) | (rw [if_neg (by decide +kernel)]; exact ⟨rfl, rfl⟩))
    (fun os started H enc _ => lifted os started H enc)
theorem proved : Rows.BitonicRoundsCardSaid :=
  Claim7.holds_tied_plain_at .later [] [.data, .data] true (true, "fe6b619c45518272eea54a06a8755bdeb49c69dd8d85b33a095b4b463a443c00") false
    over (fun _ h => by cases h) (by kernel_rfl) (fun _ h => by cases h) bitonicRounds_row_tie rfl ⟨rfl, rfl⟩ (by kernel_rfl) rfl
    (fun f fn hf hfn => by
      obtain rfl : f = 3 := Option.some.inj ((show Tryd.prog.funcNamed "domino/dominolaw13.BitonicRounds" = some 3 by kernel_rfl).symm.trans hf) |>.symm
      obtain rfl : fn = Tryd.f3 := (Option.some.inj (Tryd.func3.symm.trans hfn)).symm
      exact ⟨by kernel_rfl, fun j t ht => by
        rw [Tryd.params3] at ht
        have hm : t ∈ [3, 3, 3, 3] := by simpa using Array.mem_of_getElem? ht
        have hall : ([3, 3, 3, 3].all fun u => !Tryd.prog.wantsStandIn u) = true := by kernel_rfl
        exact (show Tryd.prog.wantsStandIn t = false by simpa using List.all_eq_true.1 hall t hm)⟩)
    (by kernel_rfl)
#print axioms proved
end Go.Proofs.YtagcnbcmegdgmaaDoor.bitonicRounds
