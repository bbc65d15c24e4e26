/-
  The law BitonicSorts of package dominolaw13 returns true for every list of numbers and every number: whatever stands at the places of a network, behind all its rounds it rises.
-/
import Derived.Test.YtagcnbcmegdgmaaDoorRows
import Derived.Test.YtagcnbcmegdgmaaDoorCards
import Derived.Test.YtagcnbcmegdgmaaDoorTie
import Derived.SevenTiedAt
import Derived.WalkKit
import Derived.ProofKit
import Derived.OpenShut
import Derived.ShutString
import Derived.ChangeOld
import Derived.Below
import Derived.LaidMore
import Derived.Stop.Joined
import Derived.Test.YtagcnbcmegdgmaaDoorB4
namespace Go.Proofs.YtagcnbcmegdgmaaDoor.bitonicSorts
open Go.ChangeShapes Go.WideShapes Go.ChangeAt Go.RowKit
open Go.ChangeMaps (open_string shut_string)
open Go.Shelf Go.Proofs.YtagcnbcmegdgmaaDoor Mem Help Held Bi
theorem own : ownKnob Tryd.prog.godebug = none := by kernel_rfl
theorem laidOut : laidOutB Tryd.prog = true := by kernel_rfl
def IsRow (k : IntKind) (w : World) (a : Option Addr) (len cap : Nat) (zs : List Int) : Prop :=
  (a = none ∧ len = 0 ∧ cap = 0 ∧ zs = []) ∨
  ∃ x, a = some x ∧ len ≤ cap ∧ cap ≤ maxLen ∧ zs.length = cap ∧ (∀ i, i < zs.length → w.cell? (x.add i) = some (.int k (zs.getD i 0))) ∧ ∀ n ∈ zs, (Lit.int k n).wf = true
def laidList : List (String × DataW Unit) := [("math/bits.deBruijn32tab", Rows.laid_math_bits_deBruijn32tab), ("math/bits.deBruijn64tab", Rows.laid_math_bits_deBruijn64tab)]
attribute [local irreducible] wpList wpListIn Calls
theorem run_addr_zero {P : Program} (t e : TypeId) (g len cap i : Nat) (k : IntKind) (ht : P.underlying t = some (.slice e)) (hs : (P.info? e).map (·.size) = some 1) (hi : i < len) (w : World) :
    (Instr.indexAt t (.slice (some ⟨g, 0, none⟩) len cap) (.int k (i : Int))).run P w = .ok (.pointer (some ⟨g, i, none⟩)) w := by
  have := Held.run_addr_slice (P := P) t e g 0 len cap i k ht hs hi w
  rwa [Nat.zero_add] at this
theorem getD_wf {l : List Int} (h : ∀ z ∈ l, (Lit.int .i64 z).wf = true) {i : Nat} (hi : i < l.length) : (Lit.int .i64 (l.getD i 0)).wf = true := by
  rw [List.getD_eq_getElem?_getD, List.getElem?_eq_getElem hi]
  exact h _ (List.getElem_mem hi)
theorem up_pair {S s t x : Nat} (h1 : 1 ≤ t) (h2 : t ≤ S) (hx : x ∈ Net.firsts (2 ^ (t - 1)) (2 ^ S)) : upV ((2 ^ S : Nat) : Int) s t true (x : Int) = Net.ups s x := by
  obtain ⟨h3, h4⟩ := mem_firsts.1 hx
  unfold upV Net.ups
  rw [two_nat, two_nat, ← Int.natCast_ediv, ← Int.natCast_ediv]
  rw [show decide (0 ≤ (x : Int)) = true by simp, show decide ((x : Int) < ((2 ^ S : Nat) : Int)) = true by simp only [decide_eq_true_eq]; omega, show decide (((x / 2 ^ (t - 1) : Nat) : Int) % 2 = 0) = true by simp only [decide_eq_true_eq]; omega]
  simp only [Bool.true_and, decide_eq_decide]
  omega
theorem fold_next {ps : List Nat} {i : Nat} (h : i < ps.length) (f : List Int → Nat → List Int) (l : List Int) : (ps.take (i + 1)).foldl f l = f ((ps.take i).foldl f l) (ps.getD i 0) := by
  rw [List.take_succ_eq_append_getElem h, List.foldl_append, List.getD_eq_getElem?_getD, List.getElem?_eq_getElem h]
  rfl
theorem sw_not {d : Nat} {up : Nat → Bool} {l : List Int} {x : Nat} (h : ¬ (decide (l.getD (x + d) 0 < l.getD x 0) = up x ∧ l.getD x 0 ≠ l.getD (x + d) 0)) : Net.sw d up l x = l := by
  unfold Net.sw; exact if_neg h
theorem sw_yes {d : Nat} {up : Nat → Bool} {l : List Int} {x : Nat} (h : decide (l.getD (x + d) 0 < l.getD x 0) = up x ∧ l.getD x 0 ≠ l.getD (x + d) 0) : Net.sw d up l x = (l.set x (l.getD (x + d) 0)).set (x + d) (l.getD x 0) := by
  unfold Net.sw; exact if_pos h
set_option maxRecDepth 100000 in
set_option maxHeartbeats 32000000 in
theorem start (A0 : Option Addr) (n0 c0' : Nat) (zs : List Int) (n : Int) (w : World) (hv : Ints w .i64 w.heap.size A0 n0 zs) (hnb : n0 ≤ maxLen) (hT : TzT w) :
    Calls Tryd.prog 4 #[.slice A0 n0 c0', .int .i64 n] w fun e w' => e = .returned (.bool true) ∧ Below w.heap.size w w' := by
  obtain ⟨N, hN⟩ : ∃ N : Int, IntKind.u64.wrap n = N := ⟨_, rfl⟩
  have hN0 : 0 ≤ N := by rw [← hN, IntKind.wrap_u64]; omega
  obtain ⟨S, hk⟩ : ∃ k : Nat, N % 7 = (k : Int) := ⟨(N % 7).toNat, by omega⟩
  have hS7 : S < 7 := by omega
  have hrem : N.tmod 7 = (S : Int) := by rw [Int.tmod_eq_emod_of_nonneg hN0]; exact hk
  have q1 := two_pos S
  have q2 : (2 : Int) ^ S ≤ 64 := by have := two_mono (show S ≤ 6 by omega); simpa using this
  have hsh := fun W : World => Rc.run_shl_ (P := Tryd.prog) 3 .i64 .u64 (a := 1) S (by show S ≤ 64; omega) W
  rw [show (1 : Int) * 2 ^ S = 2 ^ S by omega, show IntKind.i64.wrap (2 ^ S) = 2 ^ S by rw [IntKind.wrap_i64]; omega] at hsh
  have hstg := stg_pow (show S ≤ 16 by omega)
  have HR := Lib.hid (fun (W : World) (hW : Below w.heap.size w W) => rounds_any (2 ^ S) W (by omega) (by omega) (hT.below hW hT.lt))
  have HAW := Lib.hid (fun (W : World) (hW : Below w.heap.size w W) => awake13_any W (hT.below hW hT.lt))
  rw [hstg] at HR
  obtain ⟨M, hM⟩ : ∃ x : Nat, 2 ^ S = x := ⟨_, rfl⟩
  have hNI : (2 : Int) ^ S = (M : Int) := by rw [two_nat, hM]
  rw [hNI] at q1 q2 hsh HR hstg
  have HM := Lib.hid hM
  have hM2 : M ≤ 64 := by omega
  have hT1 := tri_le (show S ≤ 16 by omega)
  obtain ⟨T, hTT⟩ : ∃ T, tri S = T := ⟨_, rfl⟩
  rw [hTT] at HR hT1
  have HTT := Lib.hid hTT
  have HSTG := Lib.hid hstg
  clear hstg hNI hM hTT hk
  go_enter Tryd.func4, Tryd.ntmps4
  go_wp2_with (first
    | (refine Held.wpList_run (w := w) rfl (v := .int .u64 N) (Held.y_convert (S := fun _ => True) rfl rfl (by kernel_rfl) Tryd.underlying34 hN _ trivial) ?_)
    | (refine Held.wpList_run (w := w) rfl (v := .int .u64 (S : Int)) (y_rem (S := fun _ => True) N 7 rfl rfl rfl (Held.run_rem 34 .u64 (by omega) hrem) _ trivial) ?_)
    | (refine Held.wpList_run (w := w) rfl (v := .int .i64 (M : Int)) (y_shl (S := fun _ => True) 1 (S : Int) rfl rfl rfl hsh _ trivial) ?_)
    | (refine wpList_make_Row w rfl _ _ 25 rfl 3 .i64 8 Tryd.underlying25 info_int .i64 .i64 (M : Int) (M : Int) M rfl rfl rfl rfl (by omega) (by omega) ?_; intro w1 r1 g1 z1))
  have b1 : Below w.heap.size w w1 := (Below.refl _ w).grown g1 (Nat.le_refl _) (by simp)
  obtain ⟨gl, hgl⟩ : ∃ g, w.heap.size = g := ⟨_, rfl⟩
  have hglw : w.heap.size ≤ gl := by omega
  rw [hgl] at r1
  rw [hgl]
  clear g1 z1 hN hrem hsh
  go_loopw [6] (fun iv wr => ∃ (i : Nat) (L : List Int), i ≤ M ∧ iv = .int .i64 (i : Int) ∧ Hid (L.length = M) ∧ Row wr gl 3 .i64 L ∧ Below w.heap.size w wr) (fun iv _ => M - (intOf iv).toNat)
  case atStart => exact ⟨0, _, by omega, rfl, Lib.hid (by simp), r1, b1⟩
  case round =>
    clear r1 b1
    obtain ⟨i, L, him, rfl, hL, qs, hb⟩ := hrel
    by_cases hlt : i < M
    · have hlt' : (i : Int) < (M : Int) := by omega
      have hi0 : (0 : Int) ≤ (i : Int) := by omega
      by_cases hlt2 : i < n0
      · have hlt2' : (i : Int) < (n0 : Int) := by omega
        obtain ⟨b, off, rfl, hbb, hc⟩ := (hv.below hb).at_ hlt2
        have hwz := getD_wf hv.2.1 (i := i) (by rw [hv.1]; exact hlt2)
        generalize zs.getD i 0 = z at *
        go_wp2_with (refine wpList_store_elem (w := wr) rfl 3 _ _ rfl gl i rfl 3 .i64 L z rfl qs (by rw [hL.out]; exact hlt) (by kernel_rfl) hwz ?_; intro w5 q5 g5 z5)
        go_roundw
        case rel => exact ⟨i + 1, _, by omega, by go_num, Lib.hid (by rw [List.length_set]; exact hL.out), q5, hb.grown g5 hb.size (fun r e => by cases e; exact hglw)⟩
        case measure => simp [intOf]; omega
      · have hlt2' : ¬ (i : Int) < (n0 : Int) := by omega
        go_wp2_with fail
        have hbeh := behind_start L
        generalize fn L = f0 at hbeh
        go_loopw [4, 7] (fun x4 rv wr => ∃ (rn : Nat) (L : List Int), x4 = .bool false ∧ rv = .int .i64 (rn : Int) ∧ rn ≤ T ∧ Hid (L.length = M) ∧ Hid (Behind f0 rn L) ∧ Row wr gl 3 .i64 L ∧ Below w.heap.size w wr) (fun _ rv _ => T - (intOf rv).toNat)
        case atStart => exact ⟨0, L, rfl, rfl, by omega, hL, Lib.hid hbeh, qs, hb⟩
        case round =>
          clear qs hb hL hbeh
          clear hlt'
          obtain ⟨rn, L, rfl, rfl, hrT, hL, hbeh, qs, hb⟩ := hrel
          go_wp2_with fail
          refine (HR.out wr hb).mono ?_
          rintro e w2 ⟨rfl, rfl⟩
          by_cases hltr : rn < T
          · have hltr' : (rn : Int) < (T : Int) := by omega
            obtain ⟨s, t, hst⟩ := at_exists S (rn : Int) (by omega) (by rw [HTT.out]; omega)
            have ht1 := hst.t1
            have htS : t ≤ S := Nat.le_trans hst.ts hst.sS
            have HF : Bi.Found (stg (M : Int)) (rn : Int) s t true := by rw [HSTG.out]; exact .inl ⟨rfl, hst⟩
            have P1 := pairs_small HF
            rw [Int.toNat_natCast] at P1
            have hPS : pairsOf (M : Int) t true = Net.firsts (2 ^ (t - 1)) M := by
              have e : (M : Int) = 2 ^ S := by rw [two_nat, HM.out]
              rw [e, pairs_pow (by omega), HM.out]
            have HSQ := Lib.hid (fun (W : World) (bn br : Nat) (hW : Below w.heap.size w W) kn kr => seq2_own bn br M (M : Int) (rn : Int) s t true W (by omega) (by omega) (hT.below hW hT.lt) HF kn kr P1.1 (by omega) P1.2.1 P1.2.2)
            have HUP := Lib.hid (fun (i : Nat) (hi : i < (pairsOf (M : Int) t true).length) (W : World) (hW : Below w.heap.size w W) => show Calls Tryd.prog 17 #[.int .i64 (M : Int), .int .i64 (rn : Int), .int .i64 (((pairsOf (M : Int) t true).getD i 0 : Nat) : Int)] W fun e w' => e = .returned (.bool (Net.ups s ((pairsOf (M : Int) t true).getD i 0))) ∧ W = w' by
              have hm := getD_mem hi
              have hx6 := P1.2.1 _ hm
              generalize (pairsOf (M : Int) t true).getD i 0 = x at *
              rw [hPS] at hm
              have e := up_pair (s := s) ht1 htS (x := x) (by rw [HM.out]; exact hm)
              rw [HM.out] at e
              rw [← e]
              exact up_any (M : Int) (rn : Int) (x : Int) (stg (M : Int)) s t true W (by omega) (by omega) (by omega) (by omega) (hT.below hW hT.lt) rfl HF)
            have HPL := Lib.hid (fun i (h : i < (pairsOf (M : Int) t true).length) => show (pairsOf (M : Int) t true).getD i 0 + 2 ^ (t - 1) < M by
              have := getD_mem h
              generalize (pairsOf (M : Int) t true).getD i 0 = x at *
              rw [hPS, ← HM.out] at this
              have := pair_lt ht1 htS this
              rw [HM.out] at this
              exact this)
            have HXG := Lib.hid (fun i => xsOf_get (pairsOf (M : Int) t true) i)
            have HYG := Lib.hid (fun i (h : i < (pairsOf (M : Int) t true).length) => ysOf_get t (pairsOf (M : Int) t true) h)
            have HXL := Lib.hid (show (xsOf (pairsOf (M : Int) t true)).length = (pairsOf (M : Int) t true).length by simp [xsOf])
            have HYL := Lib.hid (show (ysOf t (pairsOf (M : Int) t true)).length = (pairsOf (M : Int) t true).length by simp [ysOf])
            have hbn := behind_round hbeh.out hst hL.out HM.out.symm
            rw [← hPS] at hbn
            have HBN := Lib.hid hbn
            obtain ⟨d, hd⟩ : ∃ d : Nat, 2 ^ (t - 1) = d := ⟨_, rfl⟩
            have hdI : (2 : Int) ^ (t - 1) = (d : Int) := by rw [two_nat, hd]
            have hd0 : 1 ≤ d := by rw [← hd]; exact Nat.two_pow_pos _
            rw [hdI] at HYG
            rw [hd] at HPL HBN
            have hPM : (pairsOf (M : Int) t true).length ≤ M := P1.1
            clear hbn P1 HF hPS hst ht1 htS hd hdI hbeh
            generalize hps : pairsOf (M : Int) t true = ps at *
            generalize xsOf ps = X at *
            generalize ysOf t ps = Y at *
            obtain ⟨m, hm⟩ : ∃ m, ps.length = m := ⟨_, rfl⟩
            rw [hm] at HSQ HUP HPL HYG HXL HYL hPM
            have HMM := Lib.hid hm
            clear hps hm
            go_wp2_with fail
            refine (round_any (M : Int) (rn : Int) wr).mono ?_
            rintro e w2 ⟨bn, br, rfl, kn, kr, _, _, b1⟩
            have hb1 := hb.trans (b1.mono hb.size)
            have qs1 : Row w2 gl 3 .i64 L := qs.below b1 qs.lt
            go_wp2_with fail
            refine (HSQ.out w2 bn br hb1 kn kr).mono ?_
            rintro e w3 ⟨A1, c1, A2, c2, rfl, ox, oy, b2⟩
            have hb2 := hb1.trans (b2.mono hb1.size)
            have qs2 : Row w3 gl 3 .i64 L := qs1.below b2 qs1.lt
            obtain ⟨bx, hbx⟩ : ∃ b, w2.heap.size = b := ⟨_, rfl⟩
            have hglx : gl < bx := by rw [← hbx]; exact qs1.lt
            rw [hbx] at ox oy
            clear b1 b2 hb1 kn kr qs1 qs hb hbx HSQ
            go_wp2_with fail
            go_loopw [4, 11] (fun x4 iv wr => ∃ (i : Nat) (LW : List Int), x4 = .bool false ∧ i ≤ m ∧ iv = .int .i64 (i : Int) ∧ Hid (LW = (ps.take i).foldl (Net.sw d (Net.ups s)) L) ∧ Hid (LW.length = M) ∧ Row wr gl 3 .i64 LW ∧ Mem.Own wr bx 3 .i64 (.slice A1 m c1) X ∧ Mem.Own wr bx 3 .i64 (.slice A2 m c2) Y ∧ Below w.heap.size w wr) (fun _ iv _ => m - (intOf iv).toNat)
            case atStart => exact ⟨0, L, rfl, by omega, rfl, Lib.hid rfl, hL, qs2, ox, oy, hb2⟩
            case round =>
              clear ox oy qs2 hb2
              obtain ⟨i, LW, rfl, him, rfl, hLW, HLW, qs, ox, oy, hb⟩ := hrel
              by_cases hlt : i < m
              · have hnx : ¬ (Value.slice A1 m c1).ownBlock = some gl := fun e => by have := (ox.2.lt gl e).1; omega
                have hny : ¬ (Value.slice A2 m c2).ownBlock = some gl := fun e => by have := (oy.2.lt gl e).1; omega
                have nox := Lib.hid hnx
                have noy := Lib.hid hny
                clear hnx hny
                obtain ⟨b, off, rfl, hbw, hc⟩ := (ox.ints HXL.out).at_ hlt
                obtain ⟨b', off', rfl, hbw', hc'⟩ := (oy.ints HYL.out).at_ hlt
                rw [HXG.out i] at hc
                rw [HYG.out i hlt] at hc'
                have hpl := HPL.out i hlt
                have HU := HUP.out i hlt
                have HSN := Lib.hid (show Net.sw d (Net.ups s) LW (ps.getD i 0) = (ps.take (i + 1)).foldl (Net.sw d (Net.ups s)) L by rw [fold_next (by rw [HMM.out]; exact hlt), ← hLW.out])
                generalize ps.getD i 0 = x at *
                obtain ⟨y, hy⟩ : ∃ y : Nat, x + d = y := ⟨_, rfl⟩
                have hyI : (x : Int) + (d : Int) = (y : Int) := by omega
                rw [hyI] at hc'
                rw [hy] at hpl
                have hyM : y < M := hpl
                have hxM : x < M := by omega
                have HLN := Lib.hid (show (Net.sw d (Net.ups s) LW x).length = M by rw [Net.sw_length, HLW.out])
                obtain ⟨u, hu⟩ : ∃ u, Net.ups s x = u := ⟨_, rfl⟩
                obtain ⟨la, hla⟩ : ∃ v, LW.getD x 0 = v := ⟨_, rfl⟩
                obtain ⟨lb, hlb⟩ : ∃ v, LW.getD y 0 = v := ⟨_, rfl⟩
                obtain ⟨g, hg⟩ : ∃ g, decide (lb < la) = g := ⟨_, rfl⟩
                obtain ⟨q, hq⟩ : ∃ q, (g == u) = q := ⟨_, rfl⟩
                obtain ⟨nb, hnb2⟩ : ∃ q, decide (la ≠ lb) = q := ⟨_, rfl⟩
                have wla : (Lit.int .i64 la).wf = true := by rw [← hla]; exact getD_wf qs.1 (by rw [HLW.out]; exact hxM)
                have wlb : (Lit.int .i64 lb).wf = true := by rw [← hlb]; exact getD_wf qs.1 (by rw [HLW.out]; exact hyM)
                have HSWN := Lib.hid (fun (h : ¬ (q = true ∧ nb = true)) => show Net.sw d (Net.ups s) LW x = LW by
                  refine sw_not fun hh => h ?_
                  rw [hy, hlb, hla, hg, hu] at hh
                  refine ⟨?_, ?_⟩
                  · rw [← hq]; simpa using hh.1
                  · rw [← hnb2]; simpa using hh.2)
                have HSWY := Lib.hid (fun (h1 : q = true) (h2 : nb = true) => show Net.sw d (Net.ups s) LW x = (LW.set x lb).set y la by
                  have := sw_yes (d := d) (up := Net.ups s) (l := LW) (x := x) (by
                    rw [hy, hlb, hla, hg, hu]
                    rw [h1] at hq
                    rw [h2] at hnb2
                    exact ⟨by simpa using hq, by simpa using hnb2⟩)
                  rw [hy, hlb, hla] at this
                  exact this)
                rw [hu] at HU
                have HLA := Lib.hid hla
                have HLB := Lib.hid hlb
                have HG := Lib.hid hg
                have HQ := Lib.hid hq
                have HNB := Lib.hid hnb2
                have hlt' : (i : Int) < (m : Int) := by omega
                have hi0 : (0 : Int) ≤ (i : Int) := by omega
                have hx0 : (0 : Int) ≤ (x : Int) := by omega
                have hxy : (x : Int) < (y : Int) := by omega
                have hyMI : (y : Int) < (M : Int) := by omega
                clear hu hla hlb hg hq hnb2 hy hyI hpl
                go_wp2_with fail
                refine wp_region_held (S := fun Z => Below wr.heap.size wr Z) (by kernel_rfl) ?_
                change wpAnyH _ _ _ _ _ _ _ _ wr.drew
                have c0 := (Below.refl wr.heap.size wr).drew
                refine Held.tk (v := .slice (some ⟨b, off, none⟩) m c1) 0 (some 62) rfl (Held.y_move rfl rfl) c0 ?_
                simp only [Act.put, Z1, Z2, Z3]
                refine Held.tk (v := .int .i64 (i : Int)) 1 (some 63) rfl (Held.y_move rfl rfl) c0 ?_
                simp only [Act.put, Z1, Z2, Z3]
                refine Held.tk (v := .pointer (some ⟨b, off + i, none⟩)) 2 (some 64) rfl (Held.y_addr rfl rfl rfl (Held.run_addr_slice (P := Tryd.prog) 25 3 b off m c1 i .i64 Tryd.underlying25 (by kernel_rfl) hlt)) c0 ?_
                simp only [Act.put, Z1, Z2, Z3]
                refine Held.tk (v := .int .i64 (x : Int)) 3 (some 65) rfl (Held.y_load rfl rfl (by kernel_rfl) (fun W hW => (hW.cell (p := ⟨b, off + i, none⟩) hbw).trans hc)) c0 ?_
                simp only [Act.put, Z1, Z2, Z3]
                refine Held.tk (v := .slice (some ⟨b', off', none⟩) m c2) 4 (some 66) rfl (Held.y_move rfl rfl) c0 ?_
                simp only [Act.put, Z1, Z2, Z3]
                refine Held.tk (v := .int .i64 (i : Int)) 5 (some 67) rfl (Held.y_move rfl rfl) c0 ?_
                simp only [Act.put, Z1, Z2, Z3]
                refine Held.tk (v := .pointer (some ⟨b', off' + i, none⟩)) 6 (some 68) rfl (Held.y_addr rfl rfl rfl (Held.run_addr_slice (P := Tryd.prog) 25 3 b' off' m c2 i .i64 Tryd.underlying25 (by kernel_rfl) hlt)) c0 ?_
                simp only [Act.put, Z1, Z2, Z3]
                refine Held.tk (v := .int .i64 (y : Int)) 7 (some 69) rfl (Held.y_load rfl rfl (by kernel_rfl) (fun W hW => (hW.cell (p := ⟨b', off' + i, none⟩) hbw').trans hc')) c0 ?_
                simp only [Act.put, Z1, Z2, Z3]
                refine Held.tk (v := .int .i64 (x : Int)) 8 (some 12) rfl (Held.y_assign rfl rfl) c0 ?_
                simp only [Act.put, Z1, Z2, Z3]
                refine Held.tk (v := .int .i64 (y : Int)) 9 (some 13) rfl (Held.y_assign rfl rfl) c0 ?_
                simp only [Act.put, Z1, Z2, Z3]
                refine wpAnyH_done (by kernel_rfl) ?_ _
                have qs : Row wr.drew gl 3 .i64 LW := qs
                have ox : Mem.Own wr.drew bx 3 .i64 (.slice (some ⟨b, off, none⟩) m c1) X := ox
                have oy : Mem.Own wr.drew bx 3 .i64 (.slice (some ⟨b', off', none⟩) m c2) Y := oy
                have hb := hb.drew
                clear c0
                generalize wr.drew = V at *
                have cla := qs.cell (i := x) (by rw [HLW.out]; exact hxM)
                rw [HLA.out] at cla
                have clb := qs.cell (i := y) (by rw [HLW.out]; exact hyM)
                rw [HLB.out] at clb
                clear hc hc' hbw hbw'
                go_wp2_with fail
                refine wp_region_held (S := fun Z => Below V.heap.size V Z) (by kernel_rfl) ?_
                change wpAnyH _ _ _ _ _ _ _ _ V.drew
                have c0 := (Below.refl V.heap.size V).drew
                refine Held.tk (v := .slice (some ⟨gl, 0, none⟩) M M) 0 (some 82) rfl (Held.y_move rfl rfl) c0 ?_
                simp only [Act.put, Z1, Z2, Z3]
                refine Held.tk (v := .int .i64 (x : Int)) 1 (some 83) rfl (Held.y_move rfl rfl) c0 ?_
                simp only [Act.put, Z1, Z2, Z3]
                refine Held.tk (v := .pointer (some ⟨gl, x, none⟩)) 2 (some 84) rfl (Held.y_addr rfl rfl rfl (run_addr_zero (P := Tryd.prog) 25 3 gl M M x .i64 Tryd.underlying25 (by kernel_rfl) hxM)) c0 ?_
                simp only [Act.put, Z1, Z2, Z3]
                refine Held.tk (v := .int .i64 la) 3 (some 85) rfl (Held.y_load rfl rfl (by kernel_rfl) (fun W hW => (hW.cell (p := ⟨gl, x, none⟩) qs.lt).trans cla)) c0 ?_
                simp only [Act.put, Z1, Z2, Z3]
                refine Held.tk (v := .slice (some ⟨gl, 0, none⟩) M M) 4 (some 86) rfl (Held.y_move rfl rfl) c0 ?_
                simp only [Act.put, Z1, Z2, Z3]
                refine Held.tk (v := .int .i64 (y : Int)) 5 (some 87) rfl (Held.y_move rfl rfl) c0 ?_
                simp only [Act.put, Z1, Z2, Z3]
                refine Held.tk (v := .pointer (some ⟨gl, y, none⟩)) 6 (some 88) rfl (Held.y_addr rfl rfl rfl (run_addr_zero (P := Tryd.prog) 25 3 gl M M y .i64 Tryd.underlying25 (by kernel_rfl) hyM)) c0 ?_
                simp only [Act.put, Z1, Z2, Z3]
                refine Held.tk (v := .int .i64 lb) 7 (some 89) rfl (Held.y_load rfl rfl (by kernel_rfl) (fun W hW => (hW.cell (p := ⟨gl, y, none⟩) qs.lt).trans clb)) c0 ?_
                simp only [Act.put, Z1, Z2, Z3]
                refine Held.tk (v := .bool g) 8 (some 90) rfl (Held.y_gtr rfl rfl rfl HG.out) c0 ?_
                simp only [Act.put, Z1, Z2, Z3]
                refine Held.tk (v := .int .i64 (M : Int)) 9 (some 91) rfl (Held.y_move rfl rfl) c0 ?_
                simp only [Act.put, Z1, Z2, Z3]
                refine Held.tk (v := .int .i64 (rn : Int)) 10 (some 92) rfl (Held.y_move rfl rfl) c0 ?_
                simp only [Act.put, Z1, Z2, Z3]
                refine Held.tk (v := .int .i64 (x : Int)) 11 (some 93) rfl (Held.y_move rfl rfl) c0 ?_
                simp only [Act.put, Z1, Z2, Z3]
                refine Held.one 12 (by kernel_rfl) ?_
                refine Held.op_call 12 (some 94) 17 #[.int .i64 (M : Int), .int .i64 (rn : Int), .int .i64 (x : Int)] rfl rfl rfl rfl (enters_of Tryd.func17 (by kernel_rfl) rfl) (by simp [Act.eval])
                  (HU V.drew hb.drew) ?_
                rintro e w1 ⟨rfl, rfl⟩
                refine ⟨_, rfl, c0, ?_⟩
                simp only [Act.put, Z1, Z2, Z3]
                refine Held.tk (v := .bool q) 13 (some 95) rfl (Held.y_eqb rfl rfl rfl HQ.out Tryd.underlying4) c0 ?_
                simp only [Act.put, Z1, Z2, Z3]
                refine Held.tk (v := .bool q) 14 (some 96) rfl (Held.y_move rfl rfl) c0 ?_
                simp only [Act.put, Z1, Z2, Z3]
                cases q with
                | false =>
                  refine Held.skip 15 (some 97) rfl rfl (by kernel_rfl) (by kernel_rfl) (by kernel_rfl) (fun _ _ _ h => h) rfl c0 ?_
                  simp only [Act.put, Z1, Z2, Z3]
                  refine Held.skip 16 (some 98) rfl rfl (by kernel_rfl) (by kernel_rfl) (by kernel_rfl) (fun _ _ _ h => h) rfl c0 ?_
                  simp only [Act.put, Z1, Z2, Z3]
                  refine Held.skip 17 (some 99) rfl rfl (by kernel_rfl) (by kernel_rfl) (by kernel_rfl) (fun _ _ _ h => h) rfl c0 ?_
                  simp only [Act.put, Z1, Z2, Z3]
                  refine Held.skip 18 (some 100) rfl rfl (by kernel_rfl) (by kernel_rfl) (by kernel_rfl) (fun _ _ _ h => h) rfl c0 ?_
                  simp only [Act.put, Z1, Z2, Z3]
                  refine Held.skip 19 (some 101) rfl rfl (by kernel_rfl) (by kernel_rfl) (by kernel_rfl) (fun _ _ _ h => h) rfl c0 ?_
                  simp only [Act.put, Z1, Z2, Z3]
                  refine Held.skip 20 (some 102) rfl rfl (by kernel_rfl) (by kernel_rfl) (by kernel_rfl) (fun _ _ _ h => h) rfl c0 ?_
                  simp only [Act.put, Z1, Z2, Z3]
                  refine Held.skip 21 (some 103) rfl rfl (by kernel_rfl) (by kernel_rfl) (by kernel_rfl) (fun _ _ _ h => h) rfl c0 ?_
                  simp only [Act.put, Z1, Z2, Z3]
                  refine Held.skip 22 (some 104) rfl rfl (by kernel_rfl) (by kernel_rfl) (by kernel_rfl) (fun _ _ _ h => h) rfl c0 ?_
                  simp only [Act.put, Z1, Z2, Z3]
                  refine Held.skip 23 (some 105) rfl rfl (by kernel_rfl) (by kernel_rfl) (by kernel_rfl) (fun _ _ _ h => h) rfl c0 ?_
                  simp only [Act.put, Z1, Z2, Z3]
                  refine Held.tk (v := .bool false) 24 (some 106) rfl (Held.y_pickF rfl rfl rfl) c0 ?_
                  simp only [Act.put, Z1, Z2, Z3]
                  refine wpAnyH_done (by kernel_rfl) ?_ _
                  clear cla clb
                  have qs : Row V.drew gl 3 .i64 LW := qs
                  have ox : Mem.Own V.drew bx 3 .i64 (.slice (some ⟨b, off, none⟩) m c1) X := ox
                  have oy : Mem.Own V.drew bx 3 .i64 (.slice (some ⟨b', off', none⟩) m c2) Y := oy
                  have hb := hb.drew
                  clear c0
                  generalize V.drew = V2 at *
                  have cla := qs.cell (i := x) (by rw [HLW.out]; exact hxM)
                  rw [HLA.out] at cla
                  have clb := qs.cell (i := y) (by rw [HLW.out]; exact hyM)
                  rw [HLB.out] at clb
                  have HSW := Lib.hid (HSWN.out (by simp))
                  go_wp2_with fail
                  go_roundw
                  case rel => exact ⟨i + 1, _, rfl, by omega, by go_num, HSN, HLN, by rw [HSW.out]; exact qs, ox, oy, hb⟩
                  case measure => simp [intOf]; omega
                | true =>
                  refine Held.tk (v := .slice (some ⟨gl, 0, none⟩) M M) 15 (some 97) rfl (Held.y_move rfl rfl) c0 ?_
                  simp only [Act.put, Z1, Z2, Z3]
                  refine Held.tk (v := .int .i64 (x : Int)) 16 (some 98) rfl (Held.y_move rfl rfl) c0 ?_
                  simp only [Act.put, Z1, Z2, Z3]
                  refine Held.tk (v := .pointer (some ⟨gl, x, none⟩)) 17 (some 99) rfl (Held.y_addr rfl rfl rfl (run_addr_zero (P := Tryd.prog) 25 3 gl M M x .i64 Tryd.underlying25 (by kernel_rfl) hxM)) c0 ?_
                  simp only [Act.put, Z1, Z2, Z3]
                  refine Held.tk (v := .int .i64 la) 18 (some 100) rfl (Held.y_load rfl rfl (by kernel_rfl) (fun W hW => (hW.cell (p := ⟨gl, x, none⟩) qs.lt).trans cla)) c0 ?_
                  simp only [Act.put, Z1, Z2, Z3]
                  refine Held.tk (v := .slice (some ⟨gl, 0, none⟩) M M) 19 (some 101) rfl (Held.y_move rfl rfl) c0 ?_
                  simp only [Act.put, Z1, Z2, Z3]
                  refine Held.tk (v := .int .i64 (y : Int)) 20 (some 102) rfl (Held.y_move rfl rfl) c0 ?_
                  simp only [Act.put, Z1, Z2, Z3]
                  refine Held.tk (v := .pointer (some ⟨gl, y, none⟩)) 21 (some 103) rfl (Held.y_addr rfl rfl rfl (run_addr_zero (P := Tryd.prog) 25 3 gl M M y .i64 Tryd.underlying25 (by kernel_rfl) hyM)) c0 ?_
                  simp only [Act.put, Z1, Z2, Z3]
                  refine Held.tk (v := .int .i64 lb) 22 (some 104) rfl (Held.y_load rfl rfl (by kernel_rfl) (fun W hW => (hW.cell (p := ⟨gl, y, none⟩) qs.lt).trans clb)) c0 ?_
                  simp only [Act.put, Z1, Z2, Z3]
                  refine Held.tk (v := .bool nb) 23 (some 105) rfl (Held.y_neI rfl rfl rfl HNB.out) c0 ?_
                  simp only [Act.put, Z1, Z2, Z3]
                  refine Held.tk (v := .bool nb) 24 (some 106) rfl (Held.y_pick rfl rfl rfl) c0 ?_
                  simp only [Act.put, Z1, Z2, Z3]
                  refine wpAnyH_done (by kernel_rfl) ?_ _
                  cases nb with
                  | false =>
                    clear cla clb
                    have qs : Row V.drew gl 3 .i64 LW := qs
                    have ox : Mem.Own V.drew bx 3 .i64 (.slice (some ⟨b, off, none⟩) m c1) X := ox
                    have oy : Mem.Own V.drew bx 3 .i64 (.slice (some ⟨b', off', none⟩) m c2) Y := oy
                    have hb := hb.drew
                    clear c0
                    generalize V.drew = V2 at *
                    have cla := qs.cell (i := x) (by rw [HLW.out]; exact hxM)
                    rw [HLA.out] at cla
                    have clb := qs.cell (i := y) (by rw [HLW.out]; exact hyM)
                    rw [HLB.out] at clb
                    have HSW := Lib.hid (HSWN.out (by simp))
                    go_wp2_with fail
                    go_roundw
                    case rel => exact ⟨i + 1, _, rfl, by omega, by go_num, HSN, HLN, by rw [HSW.out]; exact qs, ox, oy, hb⟩
                    case measure => simp [intOf]; omega
                  | true =>
                    clear cla clb
                    have qs : Row V.drew gl 3 .i64 LW := qs
                    have ox : Mem.Own V.drew bx 3 .i64 (.slice (some ⟨b, off, none⟩) m c1) X := ox
                    have oy : Mem.Own V.drew bx 3 .i64 (.slice (some ⟨b', off', none⟩) m c2) Y := oy
                    have hb := hb.drew
                    clear c0
                    generalize V.drew = V2 at *
                    have cla := qs.cell (i := x) (by rw [HLW.out]; exact hxM)
                    rw [HLA.out] at cla
                    have clb := qs.cell (i := y) (by rw [HLW.out]; exact hyM)
                    rw [HLB.out] at clb
                    have HSW := Lib.hid (HSWY.out rfl rfl)
                    have nox := nox.out
                    have noy := noy.out
                    go_wp2_with fail
                    refine wp_region_held (S := fun _ => True) (by kernel_rfl) ?_
                    change wpAnyH _ _ _ _ _ _ _ _ V2.drew
                    have c0 : True := trivial
                    clear cla clb
                    have qs : Row V2.drew gl 3 .i64 LW := qs
                    have ox : Mem.Own V2.drew bx 3 .i64 (.slice (some ⟨b, off, none⟩) m c1) X := ox
                    have oy : Mem.Own V2.drew bx 3 .i64 (.slice (some ⟨b', off', none⟩) m c2) Y := oy
                    have hb := hb.drew
                    generalize V2.drew = V3 at *
                    have cla := qs.cell (i := x) (by rw [HLW.out]; exact hxM)
                    rw [HLA.out] at cla
                    have clb := qs.cell (i := y) (by rw [HLW.out]; exact hyM)
                    rw [HLB.out] at clb
                    refine Held.tk (v := .slice (some ⟨gl, 0, none⟩) M M) 0 (some 107) rfl (Held.y_move rfl rfl) c0 ?_
                    simp only [Act.put, Z1, Z2, Z3]
                    refine Held.tk (v := .int .i64 (x : Int)) 1 (some 108) rfl (Held.y_move rfl rfl) c0 ?_
                    simp only [Act.put, Z1, Z2, Z3]
                    refine Held.tk (v := .slice (some ⟨gl, 0, none⟩) M M) 2 (some 109) rfl (Held.y_move rfl rfl) c0 ?_
                    simp only [Act.put, Z1, Z2, Z3]
                    refine Held.tk (v := .int .i64 (y : Int)) 3 (some 110) rfl (Held.y_move rfl rfl) c0 ?_
                    simp only [Act.put, Z1, Z2, Z3]
                    refine Held.tk (v := .slice (some ⟨gl, 0, none⟩) M M) 4 (some 111) rfl (Held.y_move rfl rfl) c0 ?_
                    simp only [Act.put, Z1, Z2, Z3]
                    refine Held.tk (v := .int .i64 (y : Int)) 5 (some 112) rfl (Held.y_move rfl rfl) c0 ?_
                    simp only [Act.put, Z1, Z2, Z3]
                    refine Held.tk (v := .pointer (some ⟨gl, y, none⟩)) 6 (some 113) rfl (Held.y_addr rfl rfl rfl (run_addr_zero (P := Tryd.prog) 25 3 gl M M y .i64 Tryd.underlying25 (by kernel_rfl) hyM)) c0 ?_
                    simp only [Act.put, Z1, Z2, Z3]
                    refine Held.tk (v := .slice (some ⟨gl, 0, none⟩) M M) 8 (some 115) rfl (Held.y_move rfl rfl) c0 ?_
                    simp only [Act.put, Z1, Z2, Z3]
                    refine Held.tk (v := .int .i64 (x : Int)) 9 (some 116) rfl (Held.y_move rfl rfl) c0 ?_
                    simp only [Act.put, Z1, Z2, Z3]
                    refine Held.tk (v := .pointer (some ⟨gl, x, none⟩)) 10 (some 117) rfl (Held.y_addr rfl rfl rfl (run_addr_zero (P := Tryd.prog) 25 3 gl M M x .i64 Tryd.underlying25 (by kernel_rfl) hxM)) c0 ?_
                    simp only [Act.put, Z1, Z2, Z3]
                    refine Held.two 7 11 (by kernel_rfl) ?_ ?_
                    · refine Held.op_load 7 (some 114) 3 ⟨gl, y, none⟩ (.int .i64 lb) rfl rfl rfl rfl rfl (Held.run_loadVar_cell _ _ _ _ (by kernel_rfl) clb) ?_
                      refine ⟨trivial, ?_⟩
                      simp only [Act.put, Z1, Z2, Z3]
                      refine Held.one 11 (by kernel_rfl) ?_
                      refine Held.op_load 11 (some 118) 3 ⟨gl, x, none⟩ (.int .i64 la) rfl rfl rfl rfl rfl (Held.run_loadVar_cell _ _ _ _ (by kernel_rfl) cla) ?_
                      refine ⟨trivial, ?_⟩
                      simp only [Act.put, Z1, Z2, Z3]
                      refine Held.tk (v := .pointer (some ⟨gl, x, none⟩)) 12 (some 119) rfl (Held.y_addr rfl rfl rfl (run_addr_zero (P := Tryd.prog) 25 3 gl M M x .i64 Tryd.underlying25 (by kernel_rfl) hxM)) c0 ?_
                      simp only [Act.put, Z1, Z2, Z3]
                      refine Held.one 13 (by kernel_rfl) ?_
                      refine Held.op_store_elem 13 none 3 gl x 3 .i64 LW lb rfl rfl rfl rfl rfl rfl qs (by rw [HLW.out]; exact hxM) (by kernel_rfl) wlb ?_
                      intro w5 q5 g5
                      refine ⟨trivial, ?_⟩
                      simp only [Act.put]
                      refine Held.tk (v := .pointer (some ⟨gl, y, none⟩)) 14 (some 120) rfl (Held.y_addr rfl rfl rfl (run_addr_zero (P := Tryd.prog) 25 3 gl M M y .i64 Tryd.underlying25 (by kernel_rfl) hyM)) c0 ?_
                      simp only [Act.put, Z1, Z2, Z3]
                      refine Held.one 15 (by kernel_rfl) ?_
                      refine Held.op_store_elem 15 none 3 gl y 3 .i64 (LW.set x lb) la rfl rfl rfl rfl rfl rfl q5 (by rw [List.length_set, HLW.out]; exact hyM) (by kernel_rfl) wla ?_
                      intro w6 q6 g6
                      refine ⟨trivial, ?_⟩
                      simp only [Act.put]
                      refine wpAnyH_done (by kernel_rfl) ?_ _
                      have ox6 := (ox.kept g5 (.inr nox)).kept g6 (.inr nox)
                      have oy6 := (oy.kept g5 (.inr noy)).kept g6 (.inr noy)
                      have hb6 := (hb.grown g5 (by have := hb.size; exact this) (fun r e => by cases e; exact hglw)).grown g6 (by have := hb.size; have := g5.size; omega) (fun r e => by cases e; exact hglw)
                      rw [← HSW.out] at q6
                      go_wp2_with fail
                      go_roundw
                      case rel => exact ⟨i + 1, _, rfl, by omega, by go_num, HSN, HLN, q6, ox6, oy6, hb6⟩
                      case measure => simp [intOf]; omega
                    · refine Held.op_load 11 (some 118) 3 ⟨gl, x, none⟩ (.int .i64 la) rfl rfl rfl rfl rfl (Held.run_loadVar_cell _ _ _ _ (by kernel_rfl) cla) ?_
                      refine ⟨trivial, ?_⟩
                      simp only [Act.put, Z1, Z2, Z3]
                      refine Held.one 7 (by kernel_rfl) ?_
                      refine Held.op_load 7 (some 114) 3 ⟨gl, y, none⟩ (.int .i64 lb) rfl rfl rfl rfl rfl (Held.run_loadVar_cell _ _ _ _ (by kernel_rfl) clb) ?_
                      refine ⟨trivial, ?_⟩
                      simp only [Act.put, Z1, Z2, Z3]
                      refine Held.tk (v := .pointer (some ⟨gl, x, none⟩)) 12 (some 119) rfl (Held.y_addr rfl rfl rfl (run_addr_zero (P := Tryd.prog) 25 3 gl M M x .i64 Tryd.underlying25 (by kernel_rfl) hxM)) c0 ?_
                      simp only [Act.put, Z1, Z2, Z3]
                      refine Held.one 13 (by kernel_rfl) ?_
                      refine Held.op_store_elem 13 none 3 gl x 3 .i64 LW lb rfl rfl rfl rfl rfl rfl qs (by rw [HLW.out]; exact hxM) (by kernel_rfl) wlb ?_
                      intro w5 q5 g5
                      refine ⟨trivial, ?_⟩
                      simp only [Act.put]
                      refine Held.tk (v := .pointer (some ⟨gl, y, none⟩)) 14 (some 120) rfl (Held.y_addr rfl rfl rfl (run_addr_zero (P := Tryd.prog) 25 3 gl M M y .i64 Tryd.underlying25 (by kernel_rfl) hyM)) c0 ?_
                      simp only [Act.put, Z1, Z2, Z3]
                      refine Held.one 15 (by kernel_rfl) ?_
                      refine Held.op_store_elem 15 none 3 gl y 3 .i64 (LW.set x lb) la rfl rfl rfl rfl rfl rfl q5 (by rw [List.length_set, HLW.out]; exact hyM) (by kernel_rfl) wla ?_
                      intro w6 q6 g6
                      refine ⟨trivial, ?_⟩
                      simp only [Act.put]
                      refine wpAnyH_done (by kernel_rfl) ?_ _
                      have ox6 := (ox.kept g5 (.inr nox)).kept g6 (.inr nox)
                      have oy6 := (oy.kept g5 (.inr noy)).kept g6 (.inr noy)
                      have hb6 := (hb.grown g5 (by have := hb.size; exact this) (fun r e => by cases e; exact hglw)).grown g6 (by have := hb.size; have := g5.size; omega) (fun r e => by cases e; exact hglw)
                      rw [← HSW.out] at q6
                      go_wp2_with fail
                      go_roundw
                      case rel => exact ⟨i + 1, _, rfl, by omega, by go_num, HSN, HLN, q6, ox6, oy6, hb6⟩
                      case measure => simp [intOf]; omega
              · obtain rfl : i = m := by omega
                have HBF : Hid (Behind f0 (rn + 1) LW) := Lib.hid (by
                  have := hLW.out
                  rw [List.take_of_length_le (by rw [HMM.out]; exact Nat.le_refl _)] at this
                  rw [this]
                  exact HBN.out)
                clear hLW HBN HUP HPL HXG HYG HXL HYL ox oy
                go_wp2_with fail
                go_roundw
                case rel => exact ⟨rn + 1, LW, rfl, by go_num, by omega, HLW, HBF, qs, hb⟩
                case measure => simp [intOf]; omega
          · obtain rfl : rn = T := by omega
            have HEND := Lib.hid (fun (x y : Nat) (hxy : x ≤ y) (hy : y < M) => behind_end (S := S) (by rw [HTT.out]; exact hbeh.out) hxy (by rw [HM.out]; exact hy))
            clear hbeh HR
            go_wp2_with fail
            go_loopw [4, 14] (fun x4 iv wr => ∃ i : Nat, x4 = .bool false ∧ 1 ≤ i ∧ i ≤ M ∧ iv = .int .i64 (i : Int) ∧ Row wr gl 3 .i64 L ∧ Below w.heap.size w wr) (fun _ iv _ => M - (intOf iv).toNat)
            case atStart => exact ⟨1, rfl, by omega, by omega, rfl, qs, hb⟩
            case round =>
              clear qs hb
              obtain ⟨i, rfl, hi1, him, rfl, qs, hb⟩ := hrel
              by_cases hlt : i < M
              · obtain ⟨j, hj⟩ : ∃ j : Nat, i - 1 = j := ⟨_, rfl⟩
                have hjM : j < M := by omega
                have hsj : IntKind.i64.wrap ((i : Int) - 1) = (j : Int) := by rw [IntKind.wrap_i64]; omega
                have cla := qs.cell (i := i) (by rw [hL.out]; exact hlt)
                have clb := qs.cell (i := j) (by rw [hL.out]; exact hjM)
                have hle : decide (L.getD i 0 < L.getD j 0) = false := by
                  have := HEND.out j i (by omega) hlt
                  simp only [decide_eq_false_iff_not]
                  omega
                generalize L.getD i 0 = la at *
                generalize L.getD j 0 = lb at *
                have hlt' : (i : Int) < (M : Int) := by omega
                have hi0 : (0 : Int) ≤ (i : Int) := by omega
                clear hj
                go_wp2_with fail
                refine wp_region_held (S := fun Z => Below wr.heap.size wr Z) (by kernel_rfl) ?_
                change wpAnyH _ _ _ _ _ _ _ _ wr.drew
                have c0 := (Below.refl wr.heap.size wr).drew
                refine Held.tk (v := .slice (some ⟨gl, 0, none⟩) M M) 0 (some 126) rfl (Held.y_move rfl rfl) c0 ?_
                simp only [Act.put, Z1, Z2, Z3]
                refine Held.tk (v := .int .i64 (i : Int)) 1 (some 127) rfl (Held.y_move rfl rfl) c0 ?_
                simp only [Act.put, Z1, Z2, Z3]
                refine Held.tk (v := .pointer (some ⟨gl, i, none⟩)) 2 (some 128) rfl (Held.y_addr rfl rfl rfl (run_addr_zero (P := Tryd.prog) 25 3 gl M M i .i64 Tryd.underlying25 (by kernel_rfl) hlt)) c0 ?_
                simp only [Act.put, Z1, Z2, Z3]
                refine Held.tk (v := .int .i64 la) 3 (some 129) rfl (Held.y_load rfl rfl (by kernel_rfl) (fun W hW => (hW.cell (p := ⟨gl, i, none⟩) qs.lt).trans cla)) c0 ?_
                simp only [Act.put, Z1, Z2, Z3]
                refine Held.tk (v := .slice (some ⟨gl, 0, none⟩) M M) 4 (some 130) rfl (Held.y_move rfl rfl) c0 ?_
                simp only [Act.put, Z1, Z2, Z3]
                refine Held.tk (v := .int .i64 (i : Int)) 5 (some 131) rfl (Held.y_move rfl rfl) c0 ?_
                simp only [Act.put, Z1, Z2, Z3]
                refine Held.tk (v := .int .i64 (j : Int)) 6 (some 132) rfl (y_sub (i : Int) 1 rfl rfl rfl hsj) c0 ?_
                simp only [Act.put, Z1, Z2, Z3]
                refine Held.tk (v := .pointer (some ⟨gl, j, none⟩)) 7 (some 133) rfl (Held.y_addr rfl rfl rfl (run_addr_zero (P := Tryd.prog) 25 3 gl M M j .i64 Tryd.underlying25 (by kernel_rfl) hjM)) c0 ?_
                simp only [Act.put, Z1, Z2, Z3]
                refine Held.tk (v := .int .i64 lb) 8 (some 134) rfl (Held.y_load rfl rfl (by kernel_rfl) (fun W hW => (hW.cell (p := ⟨gl, j, none⟩) qs.lt).trans clb)) c0 ?_
                simp only [Act.put, Z1, Z2, Z3]
                refine Held.tk (v := .bool false) 9 (some 135) rfl (Held.y_lss rfl rfl rfl hle) c0 ?_
                simp only [Act.put, Z1, Z2, Z3]
                refine wpAnyH_done (by kernel_rfl) ?_ _
                have qs : Row wr.drew gl 3 .i64 L := qs
                have hb := hb.drew
                clear c0 cla clb
                generalize wr.drew = V at *
                go_wp2_with fail
                go_roundw
                case rel => exact ⟨i + 1, rfl, by omega, by omega, by go_num, qs, hb⟩
                case measure => simp [intOf]; omega
              · have hlt' : ¬ (i : Int) < (M : Int) := by omega
                go_wp2_with fail
                refine (HAW.out wr hb).mono ?_
                rintro e w5 ⟨rfl, rfl⟩
                go_wp2_with fail
                go_ret
                exact ⟨rfl, hb⟩
    · have hlt' : ¬ (i : Int) < (M : Int) := by omega
      go_wp2_with fail
      have hbeh := behind_start L
      generalize fn L = f0 at hbeh
      go_loopw [4, 7] (fun x4 rv wr => ∃ (rn : Nat) (L : List Int), x4 = .bool false ∧ rv = .int .i64 (rn : Int) ∧ rn ≤ T ∧ Hid (L.length = M) ∧ Hid (Behind f0 rn L) ∧ Row wr gl 3 .i64 L ∧ Below w.heap.size w wr) (fun _ rv _ => T - (intOf rv).toNat)
      case atStart => exact ⟨0, L, rfl, rfl, by omega, hL, Lib.hid hbeh, qs, hb⟩
      case round =>
        clear qs hb hL hbeh
        clear hlt'
        obtain ⟨rn, L, rfl, rfl, hrT, hL, hbeh, qs, hb⟩ := hrel
        go_wp2_with fail
        refine (HR.out wr hb).mono ?_
        rintro e w2 ⟨rfl, rfl⟩
        by_cases hltr : rn < T
        · have hltr' : (rn : Int) < (T : Int) := by omega
          obtain ⟨s, t, hst⟩ := at_exists S (rn : Int) (by omega) (by rw [HTT.out]; omega)
          have ht1 := hst.t1
          have htS : t ≤ S := Nat.le_trans hst.ts hst.sS
          have HF : Bi.Found (stg (M : Int)) (rn : Int) s t true := by rw [HSTG.out]; exact .inl ⟨rfl, hst⟩
          have P1 := pairs_small HF
          rw [Int.toNat_natCast] at P1
          have hPS : pairsOf (M : Int) t true = Net.firsts (2 ^ (t - 1)) M := by
            have e : (M : Int) = 2 ^ S := by rw [two_nat, HM.out]
            rw [e, pairs_pow (by omega), HM.out]
          have HSQ := Lib.hid (fun (W : World) (bn br : Nat) (hW : Below w.heap.size w W) kn kr => seq2_own bn br M (M : Int) (rn : Int) s t true W (by omega) (by omega) (hT.below hW hT.lt) HF kn kr P1.1 (by omega) P1.2.1 P1.2.2)
          have HUP := Lib.hid (fun (i : Nat) (hi : i < (pairsOf (M : Int) t true).length) (W : World) (hW : Below w.heap.size w W) => show Calls Tryd.prog 17 #[.int .i64 (M : Int), .int .i64 (rn : Int), .int .i64 (((pairsOf (M : Int) t true).getD i 0 : Nat) : Int)] W fun e w' => e = .returned (.bool (Net.ups s ((pairsOf (M : Int) t true).getD i 0))) ∧ W = w' by
            have hm := getD_mem hi
            have hx6 := P1.2.1 _ hm
            generalize (pairsOf (M : Int) t true).getD i 0 = x at *
            rw [hPS] at hm
            have e := up_pair (s := s) ht1 htS (x := x) (by rw [HM.out]; exact hm)
            rw [HM.out] at e
            rw [← e]
            exact up_any (M : Int) (rn : Int) (x : Int) (stg (M : Int)) s t true W (by omega) (by omega) (by omega) (by omega) (hT.below hW hT.lt) rfl HF)
          have HPL := Lib.hid (fun i (h : i < (pairsOf (M : Int) t true).length) => show (pairsOf (M : Int) t true).getD i 0 + 2 ^ (t - 1) < M by
            have := getD_mem h
            generalize (pairsOf (M : Int) t true).getD i 0 = x at *
            rw [hPS, ← HM.out] at this
            have := pair_lt ht1 htS this
            rw [HM.out] at this
            exact this)
          have HXG := Lib.hid (fun i => xsOf_get (pairsOf (M : Int) t true) i)
          have HYG := Lib.hid (fun i (h : i < (pairsOf (M : Int) t true).length) => ysOf_get t (pairsOf (M : Int) t true) h)
          have HXL := Lib.hid (show (xsOf (pairsOf (M : Int) t true)).length = (pairsOf (M : Int) t true).length by simp [xsOf])
          have HYL := Lib.hid (show (ysOf t (pairsOf (M : Int) t true)).length = (pairsOf (M : Int) t true).length by simp [ysOf])
          have hbn := behind_round hbeh.out hst hL.out HM.out.symm
          rw [← hPS] at hbn
          have HBN := Lib.hid hbn
          obtain ⟨d, hd⟩ : ∃ d : Nat, 2 ^ (t - 1) = d := ⟨_, rfl⟩
          have hdI : (2 : Int) ^ (t - 1) = (d : Int) := by rw [two_nat, hd]
          have hd0 : 1 ≤ d := by rw [← hd]; exact Nat.two_pow_pos _
          rw [hdI] at HYG
          rw [hd] at HPL HBN
          have hPM : (pairsOf (M : Int) t true).length ≤ M := P1.1
          clear hbn P1 HF hPS hst ht1 htS hd hdI hbeh
          generalize hps : pairsOf (M : Int) t true = ps at *
          generalize xsOf ps = X at *
          generalize ysOf t ps = Y at *
          obtain ⟨m, hm⟩ : ∃ m, ps.length = m := ⟨_, rfl⟩
          rw [hm] at HSQ HUP HPL HYG HXL HYL hPM
          have HMM := Lib.hid hm
          clear hps hm
          go_wp2_with fail
          refine (round_any (M : Int) (rn : Int) wr).mono ?_
          rintro e w2 ⟨bn, br, rfl, kn, kr, _, _, b1⟩
          have hb1 := hb.trans (b1.mono hb.size)
          have qs1 : Row w2 gl 3 .i64 L := qs.below b1 qs.lt
          go_wp2_with fail
          refine (HSQ.out w2 bn br hb1 kn kr).mono ?_
          rintro e w3 ⟨A1, c1, A2, c2, rfl, ox, oy, b2⟩
          have hb2 := hb1.trans (b2.mono hb1.size)
          have qs2 : Row w3 gl 3 .i64 L := qs1.below b2 qs1.lt
          obtain ⟨bx, hbx⟩ : ∃ b, w2.heap.size = b := ⟨_, rfl⟩
          have hglx : gl < bx := by rw [← hbx]; exact qs1.lt
          rw [hbx] at ox oy
          clear b1 b2 hb1 kn kr qs1 qs hb hbx HSQ
          go_wp2_with fail
          go_loopw [4, 11] (fun x4 iv wr => ∃ (i : Nat) (LW : List Int), x4 = .bool false ∧ i ≤ m ∧ iv = .int .i64 (i : Int) ∧ Hid (LW = (ps.take i).foldl (Net.sw d (Net.ups s)) L) ∧ Hid (LW.length = M) ∧ Row wr gl 3 .i64 LW ∧ Mem.Own wr bx 3 .i64 (.slice A1 m c1) X ∧ Mem.Own wr bx 3 .i64 (.slice A2 m c2) Y ∧ Below w.heap.size w wr) (fun _ iv _ => m - (intOf iv).toNat)
          case atStart => exact ⟨0, L, rfl, by omega, rfl, Lib.hid rfl, hL, qs2, ox, oy, hb2⟩
          case round =>
            clear ox oy qs2 hb2
            obtain ⟨i, LW, rfl, him, rfl, hLW, HLW, qs, ox, oy, hb⟩ := hrel
            by_cases hlt : i < m
            · have hnx : ¬ (Value.slice A1 m c1).ownBlock = some gl := fun e => by have := (ox.2.lt gl e).1; omega
              have hny : ¬ (Value.slice A2 m c2).ownBlock = some gl := fun e => by have := (oy.2.lt gl e).1; omega
              have nox := Lib.hid hnx
              have noy := Lib.hid hny
              clear hnx hny
              obtain ⟨b, off, rfl, hbw, hc⟩ := (ox.ints HXL.out).at_ hlt
              obtain ⟨b', off', rfl, hbw', hc'⟩ := (oy.ints HYL.out).at_ hlt
              rw [HXG.out i] at hc
              rw [HYG.out i hlt] at hc'
              have hpl := HPL.out i hlt
              have HU := HUP.out i hlt
              have HSN := Lib.hid (show Net.sw d (Net.ups s) LW (ps.getD i 0) = (ps.take (i + 1)).foldl (Net.sw d (Net.ups s)) L by rw [fold_next (by rw [HMM.out]; exact hlt), ← hLW.out])
              generalize ps.getD i 0 = x at *
              obtain ⟨y, hy⟩ : ∃ y : Nat, x + d = y := ⟨_, rfl⟩
              have hyI : (x : Int) + (d : Int) = (y : Int) := by omega
              rw [hyI] at hc'
              rw [hy] at hpl
              have hyM : y < M := hpl
              have hxM : x < M := by omega
              have HLN := Lib.hid (show (Net.sw d (Net.ups s) LW x).length = M by rw [Net.sw_length, HLW.out])
              obtain ⟨u, hu⟩ : ∃ u, Net.ups s x = u := ⟨_, rfl⟩
              obtain ⟨la, hla⟩ : ∃ v, LW.getD x 0 = v := ⟨_, rfl⟩
              obtain ⟨lb, hlb⟩ : ∃ v, LW.getD y 0 = v := ⟨_, rfl⟩
              obtain ⟨g, hg⟩ : ∃ g, decide (lb < la) = g := ⟨_, rfl⟩
              obtain ⟨q, hq⟩ : ∃ q, (g == u) = q := ⟨_, rfl⟩
              obtain ⟨nb, hnb2⟩ : ∃ q, decide (la ≠ lb) = q := ⟨_, rfl⟩
              have wla : (Lit.int .i64 la).wf = true := by rw [← hla]; exact getD_wf qs.1 (by rw [HLW.out]; exact hxM)
              have wlb : (Lit.int .i64 lb).wf = true := by rw [← hlb]; exact getD_wf qs.1 (by rw [HLW.out]; exact hyM)
              have HSWN := Lib.hid (fun (h : ¬ (q = true ∧ nb = true)) => show Net.sw d (Net.ups s) LW x = LW by
                refine sw_not fun hh => h ?_
                rw [hy, hlb, hla, hg, hu] at hh
                refine ⟨?_, ?_⟩
                · rw [← hq]; simpa using hh.1
                · rw [← hnb2]; simpa using hh.2)
              have HSWY := Lib.hid (fun (h1 : q = true) (h2 : nb = true) => show Net.sw d (Net.ups s) LW x = (LW.set x lb).set y la by
                have := sw_yes (d := d) (up := Net.ups s) (l := LW) (x := x) (by
                  rw [hy, hlb, hla, hg, hu]
                  rw [h1] at hq
                  rw [h2] at hnb2
                  exact ⟨by simpa using hq, by simpa using hnb2⟩)
                rw [hy, hlb, hla] at this
                exact this)
              rw [hu] at HU
              have HLA := Lib.hid hla
              have HLB := Lib.hid hlb
              have HG := Lib.hid hg
              have HQ := Lib.hid hq
              have HNB := Lib.hid hnb2
              have hlt' : (i : Int) < (m : Int) := by omega
              have hi0 : (0 : Int) ≤ (i : Int) := by omega
              have hx0 : (0 : Int) ≤ (x : Int) := by omega
              have hxy : (x : Int) < (y : Int) := by omega
              have hyMI : (y : Int) < (M : Int) := by omega
              clear hu hla hlb hg hq hnb2 hy hyI hpl
              go_wp2_with fail
              refine wp_region_held (S := fun Z => Below wr.heap.size wr Z) (by kernel_rfl) ?_
              change wpAnyH _ _ _ _ _ _ _ _ wr.drew
              have c0 := (Below.refl wr.heap.size wr).drew
              refine Held.tk (v := .slice (some ⟨b, off, none⟩) m c1) 0 (some 62) rfl (Held.y_move rfl rfl) c0 ?_
              simp only [Act.put, Z1, Z2, Z3]
              refine Held.tk (v := .int .i64 (i : Int)) 1 (some 63) rfl (Held.y_move rfl rfl) c0 ?_
              simp only [Act.put, Z1, Z2, Z3]
              refine Held.tk (v := .pointer (some ⟨b, off + i, none⟩)) 2 (some 64) rfl (Held.y_addr rfl rfl rfl (Held.run_addr_slice (P := Tryd.prog) 25 3 b off m c1 i .i64 Tryd.underlying25 (by kernel_rfl) hlt)) c0 ?_
              simp only [Act.put, Z1, Z2, Z3]
              refine Held.tk (v := .int .i64 (x : Int)) 3 (some 65) rfl (Held.y_load rfl rfl (by kernel_rfl) (fun W hW => (hW.cell (p := ⟨b, off + i, none⟩) hbw).trans hc)) c0 ?_
              simp only [Act.put, Z1, Z2, Z3]
              refine Held.tk (v := .slice (some ⟨b', off', none⟩) m c2) 4 (some 66) rfl (Held.y_move rfl rfl) c0 ?_
              simp only [Act.put, Z1, Z2, Z3]
              refine Held.tk (v := .int .i64 (i : Int)) 5 (some 67) rfl (Held.y_move rfl rfl) c0 ?_
              simp only [Act.put, Z1, Z2, Z3]
              refine Held.tk (v := .pointer (some ⟨b', off' + i, none⟩)) 6 (some 68) rfl (Held.y_addr rfl rfl rfl (Held.run_addr_slice (P := Tryd.prog) 25 3 b' off' m c2 i .i64 Tryd.underlying25 (by kernel_rfl) hlt)) c0 ?_
              simp only [Act.put, Z1, Z2, Z3]
              refine Held.tk (v := .int .i64 (y : Int)) 7 (some 69) rfl (Held.y_load rfl rfl (by kernel_rfl) (fun W hW => (hW.cell (p := ⟨b', off' + i, none⟩) hbw').trans hc')) c0 ?_
              simp only [Act.put, Z1, Z2, Z3]
              refine Held.tk (v := .int .i64 (x : Int)) 8 (some 12) rfl (Held.y_assign rfl rfl) c0 ?_
              simp only [Act.put, Z1, Z2, Z3]
              refine Held.tk (v := .int .i64 (y : Int)) 9 (some 13) rfl (Held.y_assign rfl rfl) c0 ?_
              simp only [Act.put, Z1, Z2, Z3]
              refine wpAnyH_done (by kernel_rfl) ?_ _
              have qs : Row wr.drew gl 3 .i64 LW := qs
              have ox : Mem.Own wr.drew bx 3 .i64 (.slice (some ⟨b, off, none⟩) m c1) X := ox
              have oy : Mem.Own wr.drew bx 3 .i64 (.slice (some ⟨b', off', none⟩) m c2) Y := oy
              have hb := hb.drew
              clear c0
              generalize wr.drew = V at *
              have cla := qs.cell (i := x) (by rw [HLW.out]; exact hxM)
              rw [HLA.out] at cla
              have clb := qs.cell (i := y) (by rw [HLW.out]; exact hyM)
              rw [HLB.out] at clb
              clear hc hc' hbw hbw'
              go_wp2_with fail
              refine wp_region_held (S := fun Z => Below V.heap.size V Z) (by kernel_rfl) ?_
              change wpAnyH _ _ _ _ _ _ _ _ V.drew
              have c0 := (Below.refl V.heap.size V).drew
              refine Held.tk (v := .slice (some ⟨gl, 0, none⟩) M M) 0 (some 82) rfl (Held.y_move rfl rfl) c0 ?_
              simp only [Act.put, Z1, Z2, Z3]
              refine Held.tk (v := .int .i64 (x : Int)) 1 (some 83) rfl (Held.y_move rfl rfl) c0 ?_
              simp only [Act.put, Z1, Z2, Z3]
              refine Held.tk (v := .pointer (some ⟨gl, x, none⟩)) 2 (some 84) rfl (Held.y_addr rfl rfl rfl (run_addr_zero (P := Tryd.prog) 25 3 gl M M x .i64 Tryd.underlying25 (by kernel_rfl) hxM)) c0 ?_
              simp only [Act.put, Z1, Z2, Z3]
              refine Held.tk (v := .int .i64 la) 3 (some 85) rfl (Held.y_load rfl rfl (by kernel_rfl) (fun W hW => (hW.cell (p := ⟨gl, x, none⟩) qs.lt).trans cla)) c0 ?_
              simp only [Act.put, Z1, Z2, Z3]
              refine Held.tk (v := .slice (some ⟨gl, 0, none⟩) M M) 4 (some 86) rfl (Held.y_move rfl rfl) c0 ?_
              simp only [Act.put, Z1, Z2, Z3]
              refine Held.tk (v := .int .i64 (y : Int)) 5 (some 87) rfl (Held.y_move rfl rfl) c0 ?_
              simp only [Act.put, Z1, Z2, Z3]
              refine Held.tk (v := .pointer (some ⟨gl, y, none⟩)) 6 (some 88) rfl (Held.y_addr rfl rfl rfl (run_addr_zero (P := Tryd.prog) 25 3 gl M M y .i64 Tryd.underlying25 (by kernel_rfl) hyM)) c0 ?_
              simp only [Act.put, Z1, Z2, Z3]
              refine Held.tk (v := .int .i64 lb) 7 (some 89) rfl (Held.y_load rfl rfl (by kernel_rfl) (fun W hW => (hW.cell (p := ⟨gl, y, none⟩) qs.lt).trans clb)) c0 ?_
              simp only [Act.put, Z1, Z2, Z3]
              refine Held.tk (v := .bool g) 8 (some 90) rfl (Held.y_gtr rfl rfl rfl HG.out) c0 ?_
              simp only [Act.put, Z1, Z2, Z3]
              refine Held.tk (v := .int .i64 (M : Int)) 9 (some 91) rfl (Held.y_move rfl rfl) c0 ?_
              simp only [Act.put, Z1, Z2, Z3]
              refine Held.tk (v := .int .i64 (rn : Int)) 10 (some 92) rfl (Held.y_move rfl rfl) c0 ?_
              simp only [Act.put, Z1, Z2, Z3]
              refine Held.tk (v := .int .i64 (x : Int)) 11 (some 93) rfl (Held.y_move rfl rfl) c0 ?_
              simp only [Act.put, Z1, Z2, Z3]
              refine Held.one 12 (by kernel_rfl) ?_
              refine Held.op_call 12 (some 94) 17 #[.int .i64 (M : Int), .int .i64 (rn : Int), .int .i64 (x : Int)] rfl rfl rfl rfl (enters_of Tryd.func17 (by kernel_rfl) rfl) (by simp [Act.eval])
                (HU V.drew hb.drew) ?_
              rintro e w1 ⟨rfl, rfl⟩
              refine ⟨_, rfl, c0, ?_⟩
              simp only [Act.put, Z1, Z2, Z3]
              refine Held.tk (v := .bool q) 13 (some 95) rfl (Held.y_eqb rfl rfl rfl HQ.out Tryd.underlying4) c0 ?_
              simp only [Act.put, Z1, Z2, Z3]
              refine Held.tk (v := .bool q) 14 (some 96) rfl (Held.y_move rfl rfl) c0 ?_
              simp only [Act.put, Z1, Z2, Z3]
              cases q with
              | false =>
                refine Held.skip 15 (some 97) rfl rfl (by kernel_rfl) (by kernel_rfl) (by kernel_rfl) (fun _ _ _ h => h) rfl c0 ?_
                simp only [Act.put, Z1, Z2, Z3]
                refine Held.skip 16 (some 98) rfl rfl (by kernel_rfl) (by kernel_rfl) (by kernel_rfl) (fun _ _ _ h => h) rfl c0 ?_
                simp only [Act.put, Z1, Z2, Z3]
                refine Held.skip 17 (some 99) rfl rfl (by kernel_rfl) (by kernel_rfl) (by kernel_rfl) (fun _ _ _ h => h) rfl c0 ?_
                simp only [Act.put, Z1, Z2, Z3]
                refine Held.skip 18 (some 100) rfl rfl (by kernel_rfl) (by kernel_rfl) (by kernel_rfl) (fun _ _ _ h => h) rfl c0 ?_
                simp only [Act.put, Z1, Z2, Z3]
                refine Held.skip 19 (some 101) rfl rfl (by kernel_rfl) (by kernel_rfl) (by kernel_rfl) (fun _ _ _ h => h) rfl c0 ?_
                simp only [Act.put, Z1, Z2, Z3]
                refine Held.skip 20 (some 102) rfl rfl (by kernel_rfl) (by kernel_rfl) (by kernel_rfl) (fun _ _ _ h => h) rfl c0 ?_
                simp only [Act.put, Z1, Z2, Z3]
                refine Held.skip 21 (some 103) rfl rfl (by kernel_rfl) (by kernel_rfl) (by kernel_rfl) (fun _ _ _ h => h) rfl c0 ?_
                simp only [Act.put, Z1, Z2, Z3]
                refine Held.skip 22 (some 104) rfl rfl (by kernel_rfl) (by kernel_rfl) (by kernel_rfl) (fun _ _ _ h => h) rfl c0 ?_
                simp only [Act.put, Z1, Z2, Z3]
                refine Held.skip 23 (some 105) rfl rfl (by kernel_rfl) (by kernel_rfl) (by kernel_rfl) (fun _ _ _ h => h) rfl c0 ?_
                simp only [Act.put, Z1, Z2, Z3]
                refine Held.tk (v := .bool false) 24 (some 106) rfl (Held.y_pickF rfl rfl rfl) c0 ?_
                simp only [Act.put, Z1, Z2, Z3]
                refine wpAnyH_done (by kernel_rfl) ?_ _
                clear cla clb
                have qs : Row V.drew gl 3 .i64 LW := qs
                have ox : Mem.Own V.drew bx 3 .i64 (.slice (some ⟨b, off, none⟩) m c1) X := ox
                have oy : Mem.Own V.drew bx 3 .i64 (.slice (some ⟨b', off', none⟩) m c2) Y := oy
                have hb := hb.drew
                clear c0
                generalize V.drew = V2 at *
                have cla := qs.cell (i := x) (by rw [HLW.out]; exact hxM)
                rw [HLA.out] at cla
                have clb := qs.cell (i := y) (by rw [HLW.out]; exact hyM)
                rw [HLB.out] at clb
                have HSW := Lib.hid (HSWN.out (by simp))
                go_wp2_with fail
                go_roundw
                case rel => exact ⟨i + 1, _, rfl, by omega, by go_num, HSN, HLN, by rw [HSW.out]; exact qs, ox, oy, hb⟩
                case measure => simp [intOf]; omega
              | true =>
                refine Held.tk (v := .slice (some ⟨gl, 0, none⟩) M M) 15 (some 97) rfl (Held.y_move rfl rfl) c0 ?_
                simp only [Act.put, Z1, Z2, Z3]
                refine Held.tk (v := .int .i64 (x : Int)) 16 (some 98) rfl (Held.y_move rfl rfl) c0 ?_
                simp only [Act.put, Z1, Z2, Z3]
                refine Held.tk (v := .pointer (some ⟨gl, x, none⟩)) 17 (some 99) rfl (Held.y_addr rfl rfl rfl (run_addr_zero (P := Tryd.prog) 25 3 gl M M x .i64 Tryd.underlying25 (by kernel_rfl) hxM)) c0 ?_
                simp only [Act.put, Z1, Z2, Z3]
                refine Held.tk (v := .int .i64 la) 18 (some 100) rfl (Held.y_load rfl rfl (by kernel_rfl) (fun W hW => (hW.cell (p := ⟨gl, x, none⟩) qs.lt).trans cla)) c0 ?_
                simp only [Act.put, Z1, Z2, Z3]
                refine Held.tk (v := .slice (some ⟨gl, 0, none⟩) M M) 19 (some 101) rfl (Held.y_move rfl rfl) c0 ?_
                simp only [Act.put, Z1, Z2, Z3]
                refine Held.tk (v := .int .i64 (y : Int)) 20 (some 102) rfl (Held.y_move rfl rfl) c0 ?_
                simp only [Act.put, Z1, Z2, Z3]
                refine Held.tk (v := .pointer (some ⟨gl, y, none⟩)) 21 (some 103) rfl (Held.y_addr rfl rfl rfl (run_addr_zero (P := Tryd.prog) 25 3 gl M M y .i64 Tryd.underlying25 (by kernel_rfl) hyM)) c0 ?_
                simp only [Act.put, Z1, Z2, Z3]
                refine Held.tk (v := .int .i64 lb) 22 (some 104) rfl (Held.y_load rfl rfl (by kernel_rfl) (fun W hW => (hW.cell (p := ⟨gl, y, none⟩) qs.lt).trans clb)) c0 ?_
                simp only [Act.put, Z1, Z2, Z3]
                refine Held.tk (v := .bool nb) 23 (some 105) rfl (Held.y_neI rfl rfl rfl HNB.out) c0 ?_
                simp only [Act.put, Z1, Z2, Z3]
                refine Held.tk (v := .bool nb) 24 (some 106) rfl (Held.y_pick rfl rfl rfl) c0 ?_
                simp only [Act.put, Z1, Z2, Z3]
                refine wpAnyH_done (by kernel_rfl) ?_ _
                cases nb with
                | false =>
                  clear cla clb
                  have qs : Row V.drew gl 3 .i64 LW := qs
                  have ox : Mem.Own V.drew bx 3 .i64 (.slice (some ⟨b, off, none⟩) m c1) X := ox
                  have oy : Mem.Own V.drew bx 3 .i64 (.slice (some ⟨b', off', none⟩) m c2) Y := oy
                  have hb := hb.drew
                  clear c0
                  generalize V.drew = V2 at *
                  have cla := qs.cell (i := x) (by rw [HLW.out]; exact hxM)
                  rw [HLA.out] at cla
                  have clb := qs.cell (i := y) (by rw [HLW.out]; exact hyM)
                  rw [HLB.out] at clb
                  have HSW := Lib.hid (HSWN.out (by simp))
                  go_wp2_with fail
                  go_roundw
                  case rel => exact ⟨i + 1, _, rfl, by omega, by go_num, HSN, HLN, by rw [HSW.out]; exact qs, ox, oy, hb⟩
                  case measure => simp [intOf]; omega
                | true =>
                  clear cla clb
                  have qs : Row V.drew gl 3 .i64 LW := qs
                  have ox : Mem.Own V.drew bx 3 .i64 (.slice (some ⟨b, off, none⟩) m c1) X := ox
                  have oy : Mem.Own V.drew bx 3 .i64 (.slice (some ⟨b', off', none⟩) m c2) Y := oy
                  have hb := hb.drew
                  clear c0
                  generalize V.drew = V2 at *
                  have cla := qs.cell (i := x) (by rw [HLW.out]; exact hxM)
                  rw [HLA.out] at cla
                  have clb := qs.cell (i := y) (by rw [HLW.out]; exact hyM)
                  rw [HLB.out] at clb
                  have HSW := Lib.hid (HSWY.out rfl rfl)
                  have nox := nox.out
                  have noy := noy.out
                  go_wp2_with fail
                  refine wp_region_held (S := fun _ => True) (by kernel_rfl) ?_
                  change wpAnyH _ _ _ _ _ _ _ _ V2.drew
                  have c0 : True := trivial
                  clear cla clb
                  have qs : Row V2.drew gl 3 .i64 LW := qs
                  have ox : Mem.Own V2.drew bx 3 .i64 (.slice (some ⟨b, off, none⟩) m c1) X := ox
                  have oy : Mem.Own V2.drew bx 3 .i64 (.slice (some ⟨b', off', none⟩) m c2) Y := oy
                  have hb := hb.drew
                  generalize V2.drew = V3 at *
                  have cla := qs.cell (i := x) (by rw [HLW.out]; exact hxM)
                  rw [HLA.out] at cla
                  have clb := qs.cell (i := y) (by rw [HLW.out]; exact hyM)
                  rw [HLB.out] at clb
                  refine Held.tk (v := .slice (some ⟨gl, 0, none⟩) M M) 0 (some 107) rfl (Held.y_move rfl rfl) c0 ?_
                  simp only [Act.put, Z1, Z2, Z3]
                  refine Held.tk (v := .int .i64 (x : Int)) 1 (some 108) rfl (Held.y_move rfl rfl) c0 ?_
                  simp only [Act.put, Z1, Z2, Z3]
                  refine Held.tk (v := .slice (some ⟨gl, 0, none⟩) M M) 2 (some 109) rfl (Held.y_move rfl rfl) c0 ?_
                  simp only [Act.put, Z1, Z2, Z3]
                  refine Held.tk (v := .int .i64 (y : Int)) 3 (some 110) rfl (Held.y_move rfl rfl) c0 ?_
                  simp only [Act.put, Z1, Z2, Z3]
                  refine Held.tk (v := .slice (some ⟨gl, 0, none⟩) M M) 4 (some 111) rfl (Held.y_move rfl rfl) c0 ?_
                  simp only [Act.put, Z1, Z2, Z3]
                  refine Held.tk (v := .int .i64 (y : Int)) 5 (some 112) rfl (Held.y_move rfl rfl) c0 ?_
                  simp only [Act.put, Z1, Z2, Z3]
                  refine Held.tk (v := .pointer (some ⟨gl, y, none⟩)) 6 (some 113) rfl (Held.y_addr rfl rfl rfl (run_addr_zero (P := Tryd.prog) 25 3 gl M M y .i64 Tryd.underlying25 (by kernel_rfl) hyM)) c0 ?_
                  simp only [Act.put, Z1, Z2, Z3]
                  refine Held.tk (v := .slice (some ⟨gl, 0, none⟩) M M) 8 (some 115) rfl (Held.y_move rfl rfl) c0 ?_
                  simp only [Act.put, Z1, Z2, Z3]
                  refine Held.tk (v := .int .i64 (x : Int)) 9 (some 116) rfl (Held.y_move rfl rfl) c0 ?_
                  simp only [Act.put, Z1, Z2, Z3]
                  refine Held.tk (v := .pointer (some ⟨gl, x, none⟩)) 10 (some 117) rfl (Held.y_addr rfl rfl rfl (run_addr_zero (P := Tryd.prog) 25 3 gl M M x .i64 Tryd.underlying25 (by kernel_rfl) hxM)) c0 ?_
                  simp only [Act.put, Z1, Z2, Z3]
                  refine Held.two 7 11 (by kernel_rfl) ?_ ?_
                  · refine Held.op_load 7 (some 114) 3 ⟨gl, y, none⟩ (.int .i64 lb) rfl rfl rfl rfl rfl (Held.run_loadVar_cell _ _ _ _ (by kernel_rfl) clb) ?_
                    refine ⟨trivial, ?_⟩
                    simp only [Act.put, Z1, Z2, Z3]
                    refine Held.one 11 (by kernel_rfl) ?_
                    refine Held.op_load 11 (some 118) 3 ⟨gl, x, none⟩ (.int .i64 la) rfl rfl rfl rfl rfl (Held.run_loadVar_cell _ _ _ _ (by kernel_rfl) cla) ?_
                    refine ⟨trivial, ?_⟩
                    simp only [Act.put, Z1, Z2, Z3]
                    refine Held.tk (v := .pointer (some ⟨gl, x, none⟩)) 12 (some 119) rfl (Held.y_addr rfl rfl rfl (run_addr_zero (P := Tryd.prog) 25 3 gl M M x .i64 Tryd.underlying25 (by kernel_rfl) hxM)) c0 ?_
                    simp only [Act.put, Z1, Z2, Z3]
                    refine Held.one 13 (by kernel_rfl) ?_
                    refine Held.op_store_elem 13 none 3 gl x 3 .i64 LW lb rfl rfl rfl rfl rfl rfl qs (by rw [HLW.out]; exact hxM) (by kernel_rfl) wlb ?_
                    intro w5 q5 g5
                    refine ⟨trivial, ?_⟩
                    simp only [Act.put]
                    refine Held.tk (v := .pointer (some ⟨gl, y, none⟩)) 14 (some 120) rfl (Held.y_addr rfl rfl rfl (run_addr_zero (P := Tryd.prog) 25 3 gl M M y .i64 Tryd.underlying25 (by kernel_rfl) hyM)) c0 ?_
                    simp only [Act.put, Z1, Z2, Z3]
                    refine Held.one 15 (by kernel_rfl) ?_
                    refine Held.op_store_elem 15 none 3 gl y 3 .i64 (LW.set x lb) la rfl rfl rfl rfl rfl rfl q5 (by rw [List.length_set, HLW.out]; exact hyM) (by kernel_rfl) wla ?_
                    intro w6 q6 g6
                    refine ⟨trivial, ?_⟩
                    simp only [Act.put]
                    refine wpAnyH_done (by kernel_rfl) ?_ _
                    have ox6 := (ox.kept g5 (.inr nox)).kept g6 (.inr nox)
                    have oy6 := (oy.kept g5 (.inr noy)).kept g6 (.inr noy)
                    have hb6 := (hb.grown g5 (by have := hb.size; exact this) (fun r e => by cases e; exact hglw)).grown g6 (by have := hb.size; have := g5.size; omega) (fun r e => by cases e; exact hglw)
                    rw [← HSW.out] at q6
                    go_wp2_with fail
                    go_roundw
                    case rel => exact ⟨i + 1, _, rfl, by omega, by go_num, HSN, HLN, q6, ox6, oy6, hb6⟩
                    case measure => simp [intOf]; omega
                  · refine Held.op_load 11 (some 118) 3 ⟨gl, x, none⟩ (.int .i64 la) rfl rfl rfl rfl rfl (Held.run_loadVar_cell _ _ _ _ (by kernel_rfl) cla) ?_
                    refine ⟨trivial, ?_⟩
                    simp only [Act.put, Z1, Z2, Z3]
                    refine Held.one 7 (by kernel_rfl) ?_
                    refine Held.op_load 7 (some 114) 3 ⟨gl, y, none⟩ (.int .i64 lb) rfl rfl rfl rfl rfl (Held.run_loadVar_cell _ _ _ _ (by kernel_rfl) clb) ?_
                    refine ⟨trivial, ?_⟩
                    simp only [Act.put, Z1, Z2, Z3]
                    refine Held.tk (v := .pointer (some ⟨gl, x, none⟩)) 12 (some 119) rfl (Held.y_addr rfl rfl rfl (run_addr_zero (P := Tryd.prog) 25 3 gl M M x .i64 Tryd.underlying25 (by kernel_rfl) hxM)) c0 ?_
                    simp only [Act.put, Z1, Z2, Z3]
                    refine Held.one 13 (by kernel_rfl) ?_
                    refine Held.op_store_elem 13 none 3 gl x 3 .i64 LW lb rfl rfl rfl rfl rfl rfl qs (by rw [HLW.out]; exact hxM) (by kernel_rfl) wlb ?_
                    intro w5 q5 g5
                    refine ⟨trivial, ?_⟩
                    simp only [Act.put]
                    refine Held.tk (v := .pointer (some ⟨gl, y, none⟩)) 14 (some 120) rfl (Held.y_addr rfl rfl rfl (run_addr_zero (P := Tryd.prog) 25 3 gl M M y .i64 Tryd.underlying25 (by kernel_rfl) hyM)) c0 ?_
                    simp only [Act.put, Z1, Z2, Z3]
                    refine Held.one 15 (by kernel_rfl) ?_
                    refine Held.op_store_elem 15 none 3 gl y 3 .i64 (LW.set x lb) la rfl rfl rfl rfl rfl rfl q5 (by rw [List.length_set, HLW.out]; exact hyM) (by kernel_rfl) wla ?_
                    intro w6 q6 g6
                    refine ⟨trivial, ?_⟩
                    simp only [Act.put]
                    refine wpAnyH_done (by kernel_rfl) ?_ _
                    have ox6 := (ox.kept g5 (.inr nox)).kept g6 (.inr nox)
                    have oy6 := (oy.kept g5 (.inr noy)).kept g6 (.inr noy)
                    have hb6 := (hb.grown g5 (by have := hb.size; exact this) (fun r e => by cases e; exact hglw)).grown g6 (by have := hb.size; have := g5.size; omega) (fun r e => by cases e; exact hglw)
                    rw [← HSW.out] at q6
                    go_wp2_with fail
                    go_roundw
                    case rel => exact ⟨i + 1, _, rfl, by omega, by go_num, HSN, HLN, q6, ox6, oy6, hb6⟩
                    case measure => simp [intOf]; omega
            · obtain rfl : i = m := by omega
              have HBF : Hid (Behind f0 (rn + 1) LW) := Lib.hid (by
                have := hLW.out
                rw [List.take_of_length_le (by rw [HMM.out]; exact Nat.le_refl _)] at this
                rw [this]
                exact HBN.out)
              clear hLW HBN HUP HPL HXG HYG HXL HYL ox oy
              go_wp2_with fail
              go_roundw
              case rel => exact ⟨rn + 1, LW, rfl, by go_num, by omega, HLW, HBF, qs, hb⟩
              case measure => simp [intOf]; omega
        · obtain rfl : rn = T := by omega
          have HEND := Lib.hid (fun (x y : Nat) (hxy : x ≤ y) (hy : y < M) => behind_end (S := S) (by rw [HTT.out]; exact hbeh.out) hxy (by rw [HM.out]; exact hy))
          clear hbeh HR
          go_wp2_with fail
          go_loopw [4, 14] (fun x4 iv wr => ∃ i : Nat, x4 = .bool false ∧ 1 ≤ i ∧ i ≤ M ∧ iv = .int .i64 (i : Int) ∧ Row wr gl 3 .i64 L ∧ Below w.heap.size w wr) (fun _ iv _ => M - (intOf iv).toNat)
          case atStart => exact ⟨1, rfl, by omega, by omega, rfl, qs, hb⟩
          case round =>
            clear qs hb
            obtain ⟨i, rfl, hi1, him, rfl, qs, hb⟩ := hrel
            by_cases hlt : i < M
            · obtain ⟨j, hj⟩ : ∃ j : Nat, i - 1 = j := ⟨_, rfl⟩
              have hjM : j < M := by omega
              have hsj : IntKind.i64.wrap ((i : Int) - 1) = (j : Int) := by rw [IntKind.wrap_i64]; omega
              have cla := qs.cell (i := i) (by rw [hL.out]; exact hlt)
              have clb := qs.cell (i := j) (by rw [hL.out]; exact hjM)
              have hle : decide (L.getD i 0 < L.getD j 0) = false := by
                have := HEND.out j i (by omega) hlt
                simp only [decide_eq_false_iff_not]
                omega
              generalize L.getD i 0 = la at *
              generalize L.getD j 0 = lb at *
              have hlt' : (i : Int) < (M : Int) := by omega
              have hi0 : (0 : Int) ≤ (i : Int) := by omega
              clear hj
              go_wp2_with fail
              refine wp_region_held (S := fun Z => Below wr.heap.size wr Z) (by kernel_rfl) ?_
              change wpAnyH _ _ _ _ _ _ _ _ wr.drew
              have c0 := (Below.refl wr.heap.size wr).drew
              refine Held.tk (v := .slice (some ⟨gl, 0, none⟩) M M) 0 (some 126) rfl (Held.y_move rfl rfl) c0 ?_
              simp only [Act.put, Z1, Z2, Z3]
              refine Held.tk (v := .int .i64 (i : Int)) 1 (some 127) rfl (Held.y_move rfl rfl) c0 ?_
              simp only [Act.put, Z1, Z2, Z3]
              refine Held.tk (v := .pointer (some ⟨gl, i, none⟩)) 2 (some 128) rfl (Held.y_addr rfl rfl rfl (run_addr_zero (P := Tryd.prog) 25 3 gl M M i .i64 Tryd.underlying25 (by kernel_rfl) hlt)) c0 ?_
              simp only [Act.put, Z1, Z2, Z3]
              refine Held.tk (v := .int .i64 la) 3 (some 129) rfl (Held.y_load rfl rfl (by kernel_rfl) (fun W hW => (hW.cell (p := ⟨gl, i, none⟩) qs.lt).trans cla)) c0 ?_
              simp only [Act.put, Z1, Z2, Z3]
              refine Held.tk (v := .slice (some ⟨gl, 0, none⟩) M M) 4 (some 130) rfl (Held.y_move rfl rfl) c0 ?_
              simp only [Act.put, Z1, Z2, Z3]
              refine Held.tk (v := .int .i64 (i : Int)) 5 (some 131) rfl (Held.y_move rfl rfl) c0 ?_
              simp only [Act.put, Z1, Z2, Z3]
              refine Held.tk (v := .int .i64 (j : Int)) 6 (some 132) rfl (y_sub (i : Int) 1 rfl rfl rfl hsj) c0 ?_
              simp only [Act.put, Z1, Z2, Z3]
              refine Held.tk (v := .pointer (some ⟨gl, j, none⟩)) 7 (some 133) rfl (Held.y_addr rfl rfl rfl (run_addr_zero (P := Tryd.prog) 25 3 gl M M j .i64 Tryd.underlying25 (by kernel_rfl) hjM)) c0 ?_
              simp only [Act.put, Z1, Z2, Z3]
              refine Held.tk (v := .int .i64 lb) 8 (some 134) rfl (Held.y_load rfl rfl (by kernel_rfl) (fun W hW => (hW.cell (p := ⟨gl, j, none⟩) qs.lt).trans clb)) c0 ?_
              simp only [Act.put, Z1, Z2, Z3]
              refine Held.tk (v := .bool false) 9 (some 135) rfl (Held.y_lss rfl rfl rfl hle) c0 ?_
              simp only [Act.put, Z1, Z2, Z3]
              refine wpAnyH_done (by kernel_rfl) ?_ _
              have qs : Row wr.drew gl 3 .i64 L := qs
              have hb := hb.drew
              clear c0 cla clb
              generalize wr.drew = V at *
              go_wp2_with fail
              go_roundw
              case rel => exact ⟨i + 1, rfl, by omega, by omega, by go_num, qs, hb⟩
              case measure => simp [intOf]; omega
            · have hlt' : ¬ (i : Int) < (M : Int) := by omega
              go_wp2_with fail
              refine (HAW.out wr hb).mono ?_
              rintro e w5 ⟨rfl, rfl⟩
              go_wp2_with fail
              go_ret
              exact ⟨rfl, hb⟩
theorem walk (a0 : Option Addr) (len0 cap0 : Nat) (z0 : List Int) (a1 : Int) (w : World) (w0 : IsRow .i64 w a0 len0 cap0 z0) (w1 : (Lit.int .i64 a1).wf = true) (hL : laidMetH Tryd.prog laidList w) :
    Calls Tryd.prog 4 #[.slice a0 len0 cap0, .int .i64 a1] w fun e w' => e = .returned (.bool true) ∧ Below w.heap.size w w' := by
  obtain ⟨h, hl, hm⟩ := ints_of_row w0
  exact start a0 len0 cap0 _ a1 w h (Nat.le_trans hl hm) (bits_of_laid hL)
set_option maxRecDepth 100000 in
theorem door_met (os : Os) (args : Array Value) : laidMetH Tryd.prog laidList ((World.doorLaid Tryd.prog 400 os).forCall (fun _ _ => 0) ⟨#[], args, []⟩).memory :=
  laidMetH_of_parts3 (fuel := 8) (laidMet_of_run' 8 (by kernel_rfl) (by kernel_rfl)) (by kernel_rfl) (by kernel_rfl)
set_option maxRecDepth 100000 in
theorem lifted (os : Os) (started : os.Started) (H : Type) (enc : TypeId × Value → H) :
    ReturnsInHanded {} Tryd.checked os 4 .any (fun w args => (Rows.bitonicSortsSpec.pre enc Tryd.prog Tryd.f4 [] false w args ∧ laidMetH Tryd.prog laidList w) ∧ sizedMet enc Tryd.prog Tryd.f4 (OpenSpec.ofChange Rows.bitonicSortsSpec) false w args)
      (Rows.bitonicSortsSpec.post enc Tryd.prog Tryd.f4 false true false false) := by
  refine returnsInHanded_of_change_and (C := Tryd.checked) (X := fun w _ => laidMetH Tryd.prog laidList w) (fun _ _ _ hh h => h.of_heap hh) own started (by kernel_rfl) Tryd.func4
    (ChangeSpec.witness_shaped (enc := enc) (C := Tryd.checked) (os := os) (X := fun w _ => laidMetH Tryd.prog laidList w) false (World.doorLaid Tryd.prog 400 os) #[.slice none 0 0, .int .i64 0] 8 rfl (World.shaped_of_RefB (by kernel_rfl) (by kernel_rfl)) (by kernel_rfl) (by kernel_rfl) (by kernel_rfl) (door_met os _)) ?_
  intro W base args ds gs before hval0 hW _ _ hL _
  have hval : ∀ (j : Nat) t v, Tryd.f4.params[j]? = some t → args[j]? = some v → Value.okWide Tryd.prog W .any base t v := hval0
  have hW' := hW
  obtain ⟨p, q, hA0, hV, rfl, hfz, hnd⟩ := hW
  have hA : DataW.TrodAll enc Tryd.prog W 0 (fun _ => true) true Tryd.f4.params.toList args.toList ds p := hA0
  rw [Tryd.params4] at hA hval
  obtain ⟨v0, vs0, d0, ds0, p0, q0, hargs, rfl, rfl, h0, r0⟩ := trodAll_cons hA
  obtain ⟨v1, vs1, d1, ds1, p1, q1, rfl, rfl, rfl, h1, r1⟩ := trodAll_cons r0
  obtain ⟨rfl, rfl, rfl⟩ := trodAll_nil r1
  obtain rfl : args = #[v0, v1] := by cases args; simp_all
  obtain ⟨rfl, rfl⟩ := trodVars_none hV
  obtain ⟨a0, len0, cap0, rfl⟩ := okWide_slice Tryd.underlying25 (hval 0 25 v0 rfl rfl)
  have k0 := h0
  have lt0 : ∀ x ∈ p0, x.block < W.heap.size := by obtain ⟨m, hm⟩ := k0; exact DataW.trod_lt m _ _ _ hm
  obtain ⟨z0, w0⟩ : ∃ zs, IsRow .i64 W a0 len0 cap0 zs := by
    obtain ⟨fuel, hf⟩ := h0
    rcases open_ints Tryd.underlying25 Tryd.underlying3 (by kernel_rfl) hf with ⟨hcs, _⟩ | ⟨x, l, c, zs, hcs, _, hl, hm, hz, _, hcell, hwz⟩
    · simp [Value.cells] at hcs
      obtain ⟨rfl, rfl, rfl⟩ := hcs
      exact ⟨[], .inl ⟨rfl, rfl, rfl, rfl⟩⟩
    · simp [Value.cells] at hcs
      obtain ⟨rfl, rfl, rfl⟩ := hcs
      exact ⟨zs, .inr ⟨_, rfl, hl, hm, by simpa using hz, hcell, hwz⟩⟩
  obtain ⟨a1, rfl, rfl, rfl, w1⟩ := open_int Tryd.underlying3 (hval 1 3 v1 rfl rfl) h1
  clear hA0 hval0
  refine (walk a0 len0 cap0 z0 a1 W w0 w1 hL).mono fun e W' ⟨he, bel⟩ => ?_
  subst he
  exact ⟨_, rfl, _, _, _, [], _, [], hW', trodAll_mk1 (shut_bool Tryd.underlying4 _), (trodAll_cons_mk (Below.trod laidOut (by kernel_rfl) (of_decide_eq_true (by kernel_rfl)) k0 bel lt0) (trodAll_cons_mk (shut_int Tryd.underlying3 w1) trodAll_mk0)), rfl, bel.frame _, fun h => by cases h⟩
theorem over : Rows.bitonicSortsRow.holds Tryd.pinned (OpenSpec.ofChange Rows.bitonicSortsSpec) :=
  OpenClaim.holds_of_wide 4 Tryd.f4 rfl rfl rfl rfl rfl rfl rfl ⟨rfl, rfl, rfl, rfl, rfl⟩ rfl rfl rfl rfl rfl (by kernel_rfl) Tryd.func4 (by kernel_rfl)
    (of_decide_eq_true (by kernel_rfl)) (by unfold Func.isWrapper; first | (rw [if_pos (by decide +kernel)]; kernel_rfl) | (rw [if_neg (by decide +kernel)]; exact ⟨rfl, rfl⟩))
    (fun os started H enc _ => lifted os started H enc)
theorem proved : Rows.BitonicSortsCardSaid :=
  Claim7.holds_tied_plain_at .later [] [.data, .data] true (true, "fe6b619c45518272eea54a06a8755bdeb49c69dd8d85b33a095b4b463a443c00") false
    over (fun _ h => by cases h) (by kernel_rfl) (fun _ h => by cases h) bitonicSorts_row_tie rfl ⟨rfl, rfl⟩ (by kernel_rfl) rfl
    (fun f fn hf hfn => by
      obtain rfl : f = 4 := Option.some.inj ((show Tryd.prog.funcNamed "domino/dominolaw13.BitonicSorts" = some 4 by kernel_rfl).symm.trans hf) |>.symm
      obtain rfl : fn = Tryd.f4 := (Option.some.inj (Tryd.func4.symm.trans hfn)).symm
      exact ⟨by kernel_rfl, fun j t ht => by
        rw [Tryd.params4] at ht
        have hm : t ∈ [25, 3] := by simpa using Array.mem_of_getElem? ht
        have hall : ([25, 3].all fun u => !Tryd.prog.wantsStandIn u) = true := by kernel_rfl
        exact (show Tryd.prog.wantsStandIn t = false by simpa using List.all_eq_true.1 hall t hm)⟩)
    (by kernel_rfl)
#print axioms proved
end Go.Proofs.YtagcnbcmegdgmaaDoor.bitonicSorts
