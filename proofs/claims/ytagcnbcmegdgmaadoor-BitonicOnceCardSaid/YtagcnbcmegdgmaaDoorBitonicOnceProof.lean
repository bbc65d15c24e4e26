/-
  The law BitonicOnce of package dominolaw13 returns true for every two numbers: in each round each place stands in one pair.
-/
import Derived.Test.YtagcnbcmegdgmaaDoorRows
import Derived.Test.YtagcnbcmegdgmaaDoorCards
import Derived.Test.YtagcnbcmegdgmaaDoorTie
import Derived.SevenTiedAt
import Derived.WalkKit
import Derived.ProofKit
import Derived.OpenShut
import Derived.ShutString
import Derived.ChangeOld
import Derived.Below
import Derived.LaidMore
import Derived.Stop.Joined
import Derived.Test.YtagcnbcmegdgmaaDoorB4
namespace Go.Proofs.YtagcnbcmegdgmaaDoor.bitonicOnce
open Go.ChangeShapes Go.WideShapes Go.ChangeAt Go.RowKit
open Go.ChangeMaps (open_string shut_string)
open Go.Shelf Go.Proofs.YtagcnbcmegdgmaaDoor Mem Held Bi
theorem own : ownKnob Tryd.prog.godebug = none := by kernel_rfl
def laidList : List (String × DataW Unit) := [("math/bits.deBruijn32tab", Rows.laid_math_bits_deBruijn32tab), ("math/bits.deBruijn64tab", Rows.laid_math_bits_deBruijn64tab)]
attribute [local irreducible] wpList wpListIn Calls
def cells (F : Nat → Bool) (n : Nat) : Array Value := ((List.range n).map fun p => Value.bool (F p)).toArray
theorem cells_size (F : Nat → Bool) (n : Nat) : (cells F n).size = n := by simp [cells]
theorem cells_get (F : Nat → Bool) {n p : Nat} (h : p < n) : (cells F n)[p]? = some (.bool (F p)) := by
  simp [cells, List.getElem?_range h]
theorem cells_set (F : Nat → Bool) {n p : Nat} (h : p < n) : (cells F n).setIfInBounds p (.bool true) = cells (fun q => F q || decide (q = p)) n := by
  apply Array.ext
  · simp [cells]
  · intro i h1 h2
    have hi : i < n := by simpa [cells] using h2
    rw [Array.getElem_setIfInBounds (by rw [cells_size]; exact hi)]
    by_cases e : p = i
    · subst e; simp [cells]
    · have : ¬ i = p := fun h => e h.symm
      simp [cells, e, this]
theorem cells_made (n : Nat) : madeCells #[Value.bool false] n = cells (fun _ => false) n := by
  apply Array.ext
  · simp [madeCells, cells]
  · intro i h1 h2
    simp [madeCells, cells, Nat.mod_one]
theorem wpList_make_truths {P : Program} (w : World) {ops : Array Oper} {rest : List Oper} {o : Oper} {a : Act} {Q : Exit → Act → World → Prop} (hg : o.guard = none) (l c : Operand) (t : TypeId) (hop : o.op = Op.makeSlice t l c)
    (e : TypeId) (bytes : Nat) (ht : P.underlying t = some (.slice e)) (hinfo : (P.info? e).map (fun i => (i.zero, i.size, i.bytes)) = some (some (.bool false), 1, bytes))
    (kl kc : IntKind) (n : Nat) (hl : a.eval l = .int kl (n : Int)) (hc : a.eval c = .int kc (n : Int)) (hby : bytes ≤ 8) (hn : n ≤ 17592186044416)
    (hK : ∀ w', Blk w' w.heap.size e (cells (fun _ => false) n) → w.grownBy w' none → Hid (w'.heap.size = w.heap.size + 1) → wpList P ops Q rest (a.put o.dst (.slice (some ⟨w.heap.size, 0, none⟩) n n)) w') :
    wpList P ops Q (o :: rest) a w := by
  obtain ⟨i, hi, hzz⟩ := Option.map_eq_some_iff.1 hinfo
  simp only [Prod.mk.injEq] at hzz
  obtain ⟨hz, hs, hb⟩ := hzz
  refine wpList_make_row w hg l c t hop e i (.bool false) ht hi hz hs rfl kl kc n hl hc (by rw [hb]; exact Nat.le_trans (Nat.mul_le_mul hby hn) (by omega)) (by omega) ?_
  refine hK _ ?_ (World.grownBy_alloc w _ none) (Lib.hid (by simp))
  rw [cells_made]
  exact heap_alloc_new w _
theorem info_bool : (Tryd.prog.info? 4).map (fun i => (i.zero, i.size, i.bytes)) = some (some (.bool false), 1, 1) := by kernel_rfl
def seen (d : Nat) (ps : List Nat) (i j q : Nat) : Bool := decide (Net.lead d q ∈ ps.take i) || (decide (1 ≤ j) && decide (q = ps.getD i 0)) || (decide (2 ≤ j) && decide (q = ps.getD i 0 + d))
theorem take_next {ps : List Nat} {i : Nat} (h : i < ps.length) : ps.take (i + 1) = ps.take i ++ [ps.getD i 0] := by
  rw [List.take_succ_eq_append_getElem h, List.getD_eq_getElem?_getD, List.getElem?_eq_getElem h]; rfl
theorem not_taken {ps : List Nat} (hn : ps.Nodup) {i : Nat} (h : i < ps.length) : ps.getD i 0 ∉ ps.take i := fun hm => by
  have := (List.take_sublist (i + 1) ps).nodup hn
  rw [take_next h, List.nodup_append] at this
  exact this.2.2 _ hm _ (by simp) rfl
theorem seen_next {d S t : Nat} (hd : d = 2 ^ (t - 1)) {ps : List Nat} (hp : ps = Net.firsts d (2 ^ S)) {i : Nat} (h : i < ps.length) : seen d ps i 2 = seen d ps (i + 1) 0 := by
  have hd0 : 0 < d := by rw [hd]; exact Nat.two_pow_pos _
  have hm := getD_mem h
  have hb : ps.getD i 0 / d % 2 = 0 := by
    generalize ps.getD i 0 = x at hm
    rw [hp] at hm
    exact (mem_firsts.1 hm).2
  funext q
  unfold seen
  rw [take_next h]
  generalize ps.getD i 0 = x at *
  have e1 : (Net.lead d q = x) ↔ (q = x ∨ q = x + d) := by
    constructor
    · exact Net.lead_eq hd0
    · rintro (rfl | rfl)
      · unfold Net.lead; rw [if_pos hb]
      · exact Net.lead_of_high hd0 hb
  have e2 : decide (Net.lead d q ∈ ps.take i ++ [x]) = (decide (Net.lead d q ∈ ps.take i) || decide (q = x) || decide (q = x + d)) := by
    rw [Bool.or_assoc, ← Bool.decide_or, ← Bool.decide_or, decide_eq_decide, List.mem_append, List.mem_singleton, e1]
  rw [e2]
  simp
theorem seen_zero {d : Nat} {ps : List Nat} : seen d ps 0 0 = fun _ => false := by
  funext q
  simp [seen]
theorem seen_one (d : Nat) (ps : List Nat) (i : Nat) : (fun q => seen d ps i 0 q || decide (q = ps.getD i 0)) = seen d ps i 1 := by
  funext q
  simp [seen]
theorem seen_two (d : Nat) (ps : List Nat) (i : Nat) : (fun q => seen d ps i 1 q || decide (q = ps.getD i 0 + d)) = seen d ps i 2 := by
  funext q
  simp [seen]
theorem seen_x {d S t : Nat} (hd : d = 2 ^ (t - 1)) {ps : List Nat} (hp : ps = Net.firsts d (2 ^ S)) {i : Nat} (h : i < ps.length) : seen d ps i 0 (ps.getD i 0) = false ∧ seen d ps i 1 (ps.getD i 0 + d) = false := by
  have hd0 : 0 < d := by rw [hd]; exact Nat.two_pow_pos _
  have hm := getD_mem h
  have hb : ps.getD i 0 / d % 2 = 0 := by
    generalize ps.getD i 0 = x at hm
    rw [hp] at hm
    exact (mem_firsts.1 hm).2
  have hnt := not_taken (by rw [hp]; exact nodup_firsts _ _) h
  unfold seen
  generalize ps.getD i 0 = x at *
  have e1 : Net.lead d x = x := by unfold Net.lead; rw [if_pos hb]
  have e2 : Net.lead d (x + d) = x := Net.lead_of_high hd0 hb
  have e3 : ¬ x + d = x := by omega
  constructor
  · simp [e1, hnt]
  · simp [e2, hnt]
    omega
set_option maxRecDepth 100000 in
set_option maxHeartbeats 16000000 in
theorem start (n r : Int) (w : World) (hT : TzT w) :
    Calls Tryd.prog 5 #[.int .i64 n, .int .i64 r] w fun e w' => e = .returned (.bool true) ∧ Below w.heap.size w w' := by
  obtain ⟨N, hN⟩ : ∃ N : Int, IntKind.u64.wrap n = N := ⟨_, rfl⟩
  have hN0 : 0 ≤ N := by rw [← hN, IntKind.wrap_u64]; omega
  obtain ⟨S, hk⟩ : ∃ k : Nat, N % 8 = (k : Int) := ⟨(N % 8).toNat, by omega⟩
  have hS7 : S < 8 := by omega
  have hrem : N.tmod 8 = (S : Int) := by rw [Int.tmod_eq_emod_of_nonneg hN0]; exact hk
  have q1 := two_pos S
  have q2 : (2 : Int) ^ S ≤ 128 := by have := two_mono (show S ≤ 7 by omega); simpa using this
  have hsh := fun W : World => Rc.run_shl_ (P := Tryd.prog) 3 .i64 .u64 (a := 1) S (by show S ≤ 64; omega) W
  rw [show (1 : Int) * 2 ^ S = 2 ^ S by omega, show IntKind.i64.wrap (2 ^ S) = 2 ^ S by rw [IntKind.wrap_i64]; omega] at hsh
  have hstg := stg_pow (show S ≤ 16 by omega)
  have HR := rounds_any (2 ^ S) w (by omega) (by omega) hT
  rw [hstg] at HR
  have HA := awake13_any w hT
  have HAW := Lib.hid (fun (W : World) (hW : Below w.heap.size w W) => awake13_any W (hT.below hW hT.lt))
  obtain ⟨M, hM⟩ : ∃ x : Nat, 2 ^ S = x := ⟨_, rfl⟩
  have hNI : (2 : Int) ^ S = (M : Int) := by rw [two_nat, hM]
  rw [hNI] at q1 q2 hsh HR hstg
  have hM2 : M ≤ 128 := by omega
  have hT1 := tri_le (show S ≤ 16 by omega)
  obtain ⟨T, hTT⟩ : ∃ T, tri S = T := ⟨_, rfl⟩
  rw [hTT] at HR hT1
  by_cases hS0 : S = 0
  · have hT0 : T = 0 := by rw [← hTT, hS0]; rfl
    have hM0 : M = 1 := by rw [← hM, hS0]
    subst hT0 hM0
    have hd : decide (((0 : Nat) : Int) = 0) = true := by simp
    clear hstg hNI hM hTT hk
    go_enter Tryd.func5, Tryd.ntmps5
    go_wp2_with (first
      | (refine Held.wpList_run (w := w) rfl (v := .int .u64 N) (Held.y_convert (S := fun _ => True) rfl rfl (by kernel_rfl) Tryd.underlying34 hN _ trivial) ?_)
      | (refine Held.wpList_run (w := w) rfl (v := .int .u64 (S : Int)) (y_rem (S := fun _ => True) N 8 rfl rfl rfl (Held.run_rem 34 .u64 (by omega) hrem) _ trivial) ?_)
      | (refine Held.wpList_run (w := w) rfl (v := .int .i64 ((1 : Nat) : Int)) (y_shl (S := fun _ => True) 1 (S : Int) rfl rfl rfl hsh _ trivial) ?_))
    refine HR.mono ?_
    rintro e w1 ⟨rfl, rfl⟩
    go_wp2_with fail
    refine HA.mono ?_
    rintro e w1 ⟨rfl, rfl⟩
    go_wp2_with fail
    go_ret
    exact ⟨by simp, Below.refl _ _⟩
  have hS1 : 1 ≤ S := by omega
  have hTpos : 1 ≤ T := by
    rw [← hTT]
    have := tri_mono hS1
    rw [show tri 1 = 1 from rfl] at this
    exact this
  obtain ⟨R, hR⟩ : ∃ R : Int, IntKind.u64.wrap r = R := ⟨_, rfl⟩
  have hR0 : 0 ≤ R := by rw [← hR, IntKind.wrap_u64]; omega
  obtain ⟨rn, hrn⟩ : ∃ j : Nat, R % (T : Int) = (j : Int) := ⟨(R % (T : Int)).toNat, by have := Int.emod_nonneg R (show (T : Int) ≠ 0 by omega); omega⟩
  have hrT : rn < T := by have := Int.emod_lt_of_pos R (show (0 : Int) < (T : Int) by omega); omega
  have hrem2 : R.tmod (T : Int) = (rn : Int) := by rw [Int.tmod_eq_emod_of_nonneg hR0]; exact hrn
  have hcT : IntKind.u64.wrap (T : Int) = (T : Int) := by rw [IntKind.wrap_u64]; omega
  have hcr : IntKind.i64.wrap (rn : Int) = (rn : Int) := by rw [IntKind.wrap_i64]; omega
  obtain ⟨s, t, hst⟩ := at_exists S (rn : Int) (by omega) (by rw [hTT]; omega)
  have ht1 := hst.t1
  have htS : t ≤ S := Nat.le_trans hst.ts hst.sS
  have HF : Bi.Found (stg (M : Int)) (rn : Int) s t true := by rw [hstg]; exact .inl ⟨rfl, hst⟩
  have P1 := pairs_small HF
  rw [Int.toNat_natCast] at P1
  have hPS : pairsOf (M : Int) t true = Net.firsts (2 ^ (t - 1)) (2 ^ S) := by rw [← hNI]; exact pairs_pow (by omega)
  have hLn : (pairsOf (M : Int) t true).length = M / 2 := by rw [hPS, pairs_length ht1 htS, hM]
  have HSQ := fun (W : World) (bn br : Nat) (hW : Below w.heap.size w W) kn kr => seq2_any bn br M (M : Int) (rn : Int) s t true W (by omega) (by omega) (hT.below hW hT.lt) HF kn kr P1.1 (by omega) P1.2.1 P1.2.2
  have HXG := Lib.hid (fun i => xsOf_get (pairsOf (M : Int) t true) i)
  have HYG := Lib.hid (fun i (h : i < (pairsOf (M : Int) t true).length) => ysOf_get t (pairsOf (M : Int) t true) h)
  have HPL := Lib.hid (fun i (h : i < (pairsOf (M : Int) t true).length) => show (pairsOf (M : Int) t true).getD i 0 + 2 ^ (t - 1) < M by
    have := getD_mem h
    generalize (pairsOf (M : Int) t true).getD i 0 = x at *
    rw [hPS] at this
    rw [← hM]
    exact pair_lt ht1 htS this)
  obtain ⟨d, hd⟩ : ∃ d : Nat, 2 ^ (t - 1) = d := ⟨_, rfl⟩
  have hdI : (2 : Int) ^ (t - 1) = (d : Int) := by rw [two_nat, hd]
  rw [hd] at hPS
  have HSX := Lib.hid (fun i (h : i < (pairsOf (M : Int) t true).length) => seen_x hd.symm hPS h)
  have HSN := Lib.hid (fun i (h : i < (pairsOf (M : Int) t true).length) => seen_next hd.symm hPS h)
  obtain ⟨MH, hMH⟩ : ∃ x : Nat, M / 2 = x := ⟨_, rfl⟩
  have hqM : IntKind.i64.wrap ((M : Int).tdiv 2) = (MH : Int) := by rw [Int.tdiv_eq_ediv_of_nonneg (by omega), IntKind.wrap_i64]; omega
  have hqm := fun W : World => Held.run_quo (P := Tryd.prog) 3 .i64 (a := (M : Int)) (b := 2) (r := (MH : Int)) (by omega) hqM W
  rw [hMH] at hLn
  have hMHb : MH ≤ 64 := by omega
  generalize pairsOf (M : Int) t true = ps at *
  rw [hLn] at HSQ HYG HPL HSX HSN
  rw [hdI] at HYG
  rw [hd] at HPL
  generalize xsOf ps = X at *
  generalize ysOf t ps = Y at *
  have HT0 : ¬ (T : Int) = 0 := by omega
  clear hMH hqM hd hdI hPS P1 HF hst ht1 htS hrn hTT hM hNI hstg hk hS0 hS1 hLn hT
  go_enter Tryd.func5, Tryd.ntmps5
  go_wp2_with (first
    | (refine Held.wpList_run (w := w) rfl (v := .int .u64 N) (Held.y_convert (S := fun _ => True) rfl rfl (by kernel_rfl) Tryd.underlying34 hN _ trivial) ?_)
    | (refine Held.wpList_run (w := w) rfl (v := .int .u64 (S : Int)) (y_rem (S := fun _ => True) N 8 rfl rfl rfl (Held.run_rem 34 .u64 (by omega) hrem) _ trivial) ?_)
    | (refine Held.wpList_run (w := w) rfl (v := .int .i64 (M : Int)) (y_shl (S := fun _ => True) 1 (S : Int) rfl rfl rfl hsh _ trivial) ?_))
  refine HR.mono ?_
  rintro e w1 ⟨rfl, rfl⟩
  go_wp2_with (refine Held.wpList_run (w := w) rfl (v := .int .u64 R) (Held.y_convert (S := fun _ => True) (k := .i64) (a := r) rfl rfl (by kernel_rfl) Tryd.underlying34 hR _ trivial) ?_)
  refine HR.mono ?_
  rintro e w1 ⟨rfl, rfl⟩
  go_wp2_with (first
    | (refine Held.wpList_run (w := w) rfl (v := .int .u64 (T : Int)) (Held.y_convert (S := fun _ => True) (k := .i64) (a := (T : Int)) rfl rfl (by kernel_rfl) Tryd.underlying34 hcT _ trivial) ?_)
    | (refine Held.wpList_run (w := w) rfl (v := .int .u64 (rn : Int)) (y_rem (S := fun _ => True) R (T : Int) rfl rfl rfl (Held.run_rem 34 .u64 (by omega) hrem2) _ trivial) ?_)
    | (refine Held.wpList_run (w := w) rfl (v := .int .i64 (rn : Int)) (Held.y_convert (S := fun _ => True) (k := .u64) (a := (rn : Int)) rfl rfl (by kernel_rfl) Tryd.underlying3 hcr _ trivial) ?_))
  refine (round_any (M : Int) (rn : Int) w).mono ?_
  rintro e w1 ⟨bn, br, rfl, kn, kr, _, _, b1⟩
  go_wp2_with fail
  refine (HSQ w1 bn br b1 kn kr).mono ?_
  rintro e w2 ⟨A1, c1, A2, c2, rfl, i1, i2, b2⟩
  have d2 := b1.trans (b2.mono b1.size)
  clear b1 b2 kn kr HSQ HR hsh hrem hrem2 hcT hcr hN hR
  go_wp2_with fail
  refine (HAW.out w2 d2).mono ?_
  rintro e w3 ⟨rfl, rfl⟩
  clear HA
  go_wp2_with (first
    | (refine Held.wpList_run (w := w2) rfl (v := .int .i64 (MH : Int)) (y_quo (S := fun _ => True) (M : Int) 2 rfl rfl rfl hqm _ trivial) ?_; simp only [Act.put, Z1, Z2, Z3])
    | (refine wpList_make_truths w2 rfl _ _ 38 rfl 4 1 Tryd.underlying38 info_bool .i64 .i64 M rfl rfl (by omega) (by omega) ?_; intro w4 q4 g4 z4))
  have b4 : Below w2.heap.size w2 w4 := (Below.refl _ w2).grown g4 (Nat.le_refl _) (by simp)
  have z4 := z4.out
  obtain ⟨gs, hgs⟩ : ∃ g, w2.heap.size = g := ⟨_, rfl⟩
  rw [hgs] at q4 b4 i1 i2 z4
  rw [hgs]
  have d2s := d2.size
  rw [hgs] at d2s
  clear g4 hqm
  go_loopw [4, 9] (fun x4 iv wr => ∃ i : Nat, x4 = .bool false ∧ i ≤ MH ∧ iv = .int .i64 (i : Int) ∧ Blk wr gs 4 (cells (seen d ps i 0) M) ∧ Below gs w2 wr) (fun _ iv _ => MH - (intOf iv).toNat)
  case atStart => exact ⟨0, rfl, by omega, rfl, by rw [seen_zero]; exact q4, b4⟩
  case round =>
    clear q4 b4 z4
    obtain ⟨i, rfl, him, rfl, qs, hb⟩ := hrel
    by_cases hlt : i < MH
    · have I1 := i1.below hb
      have I2 := i2.below hb
      obtain ⟨b, off, rfl, hbg, hc⟩ := I1.at_ hlt
      obtain ⟨b', off', rfl, hbg', hc'⟩ := I2.at_ hlt
      rw [HXG.out i] at hc
      rw [HYG.out i hlt] at hc'
      have hpl := HPL.out i hlt
      obtain ⟨e1, e2⟩ := HSX.out i hlt
      have hs1 : (cells (seen d ps i 0) M).setIfInBounds (ps.getD i 0) (.bool true) = cells (seen d ps i 1) M := by rw [cells_set _ (by omega), seen_one]
      have hs2 : (cells (seen d ps i 1) M).setIfInBounds (ps.getD i 0 + d) (.bool true) = cells (seen d ps i 2) M := by rw [cells_set _ (by omega), seen_two]
      have hs3 := Lib.hid (HSN.out i hlt)
      generalize ps.getD i 0 = x at *
      have hgw := qs.lt
      have hbw : b < wr.heap.size := by omega
      have hbw' : b' < wr.heap.size := by omega
      have hlt' : (i : Int) < (MH : Int) := by omega
      have hi0 : (0 : Int) ≤ (i : Int) := by omega
      have wf2 : ∀ z ∈ [(x : Int), (x : Int) + (d : Int)], (Lit.int .i64 z).wf = true := by
        intro z hz
        simp only [List.mem_cons, List.not_mem_nil, or_false] at hz
        rcases hz with rfl | rfl
        · exact wf_i64 (by omega) (by omega)
        · exact wf_i64 (by omega) (by omega)
      have HE := Lib.hid (And.intro (And.intro e1 e2) (And.intro hs1 hs2))
      clear e1 e2 hs1 hs2 I1 I2
      go_wp2_with fail
      refine wp_region_held (S := fun W => Below wr.heap.size wr W) (by kernel_rfl) ?_
      change wpAnyH _ _ _ _ _ _ _ _ wr.drew
      have c0 := (Below.refl wr.heap.size wr).drew
      refine Held.tk (v := .slice (some ⟨b, off, none⟩) MH c1) 0 (some 61) rfl (Held.y_move rfl rfl) c0 ?_
      simp only [Act.put, Z1, Z2, Z3]
      refine Held.tk (v := .int .i64 (i : Int)) 1 (some 62) rfl (Held.y_move rfl rfl) c0 ?_
      simp only [Act.put, Z1, Z2, Z3]
      refine Held.tk (v := .pointer (some ⟨b, off + i, none⟩)) 2 (some 63) rfl (Held.y_addr rfl rfl rfl (Held.run_addr_slice (P := Tryd.prog) 25 3 b off MH c1 i .i64 Tryd.underlying25 (by kernel_rfl) hlt)) c0 ?_
      simp only [Act.put, Z1, Z2, Z3]
      refine Held.tk (v := .int .i64 (x : Int)) 3 (some 64) rfl (Held.y_load rfl rfl (by kernel_rfl) (fun W hW => (hW.cell (p := ⟨b, off + i, none⟩) hbw).trans hc)) c0 ?_
      simp only [Act.put, Z1, Z2, Z3]
      refine Held.tk (v := .slice (some ⟨b', off', none⟩) MH c2) 4 (some 65) rfl (Held.y_move rfl rfl) c0 ?_
      simp only [Act.put, Z1, Z2, Z3]
      refine Held.tk (v := .int .i64 (i : Int)) 5 (some 66) rfl (Held.y_move rfl rfl) c0 ?_
      simp only [Act.put, Z1, Z2, Z3]
      refine Held.tk (v := .pointer (some ⟨b', off' + i, none⟩)) 6 (some 67) rfl (Held.y_addr rfl rfl rfl (Held.run_addr_slice (P := Tryd.prog) 25 3 b' off' MH c2 i .i64 Tryd.underlying25 (by kernel_rfl) hlt)) c0 ?_
      simp only [Act.put, Z1, Z2, Z3]
      refine Held.tk (v := .int .i64 ((x : Int) + (d : Int))) 7 (some 68) rfl (Held.y_load rfl rfl (by kernel_rfl) (fun W hW => (hW.cell (p := ⟨b', off' + i, none⟩) hbw').trans hc')) c0 ?_
      simp only [Act.put, Z1, Z2, Z3]
      refine Held.tk (v := .int .i64 0) 10 (some 71) rfl (Held.y_move rfl rfl) c0 ?_
      simp only [Act.put, Z1, Z2, Z3]
      refine Held.one 8 (by kernel_rfl) ?_
      refine Held.op_build_Row 8 (some 69) 25 3 2 .i64 8 [(x : Int), (x : Int) + (d : Int)] rfl rfl rfl rfl Tryd.underlying25 info_int (by simp [Act.eval]) rfl (by omega) (by omega) wf2 ?_
      intro g2 w5 r5 b5 q5
      have c1_ := c0.trans (b5.mono c0.size)
      refine ⟨c1_, ?_⟩
      simp only [Act.put, Z1, Z2, Z3]
      refine Held.tk (v := .int .i64 2) 9 (some 70) rfl (Held.y_len rfl rfl Tryd.underlying25) c1_ ?_
      simp only [Act.put, Z1, Z2, Z3]
      refine wpAnyH_done (by kernel_rfl) ?_ _
      have qs5 := qs.after c1_
      have hb5 := hb.trans (c1_.mono (Nat.le_of_lt hgw))
      have q5 := q5.out
      have c0s := c0.size
      have hgg : gs ≠ g2 := by omega
      have hgr : gs ≤ g2 := by omega
      clear c0 c1_ b5 hc hc' qs hb q5 c0s
      go_wp2_with fail
      go_loopw [4, 71] (fun x4 jv wq => ∃ j : Nat, x4 = .bool false ∧ j ≤ 2 ∧ jv = .int .i64 (j : Int) ∧ Blk wq gs 4 (cells (seen d ps i j) M) ∧ Row wq g2 3 .i64 [(x : Int), (x : Int) + (d : Int)] ∧ Below gs w2 wq) (fun _ jv _ => 2 - (intOf jv).toNat)
      case atStart => exact ⟨0, rfl, by omega, rfl, qs5, r5, hb5⟩
      case round =>
        clear qs5 hb5 r5
        obtain ⟨j, rfl, hj, rfl, qs, rr, hb⟩ := hrel
        by_cases hj2 : j < 2
        · obtain ⟨b5, off5, e5, _, hc5⟩ := (rr.ints (n := 2) (by simp)).at_ hj2
          injection e5 with e5
          injection e5 with e5 e6
          subst e5 e6
          obtain ⟨p, hp, hpM, hps, hset⟩ : ∃ p : Nat, (([(x : Int), (x : Int) + (d : Int)] : List Int).take 2).getD j 0 = (p : Int) ∧ p < M ∧ seen d ps i j p = false ∧ (cells (seen d ps i j) M).setIfInBounds p (.bool true) = cells (seen d ps i (j + 1)) M := by
            obtain ⟨⟨k1, k2⟩, k3, k4⟩ := HE.out
            rcases (show j = 0 ∨ j = 1 by omega) with rfl | rfl
            · exact ⟨x, rfl, by omega, k1, k3⟩
            · exact ⟨x + d, by simp, hpl, k2, k4⟩
          rw [hp] at hc5
          have hcs := qs.cell (cells_get (seen d ps i j) hpM)
          rw [hps] at hcs
          have hc6 : wr.cell? ⟨g2, j, none⟩ = some (.int .i64 (p : Int)) := by rw [← hc5, Nat.zero_add]
          have hcs2 : wr.cell? ⟨gs, 0 + p, none⟩ = some (.bool false) := by rw [Nat.zero_add]; exact hcs
          have HSET := Lib.hid hset
          have hlj : (j : Int) < 2 := by omega
          have hj0 : (0 : Int) ≤ (j : Int) := by omega
          have hp0 : (0 : Int) ≤ (p : Int) := by omega
          have hpM' : (p : Int) < (M : Int) := by omega
          clear hp hps hset
          go_wp2_with (refine Held.wpList_store_field (w := wr) rfl 4 _ _ rfl gs p rfl 4 _ (.bool true) rfl qs (by rw [cells_size]; exact hpM) (by kernel_rfl) rfl rfl ?_; intro w6 q6 g6 z6; rw [HSET.out] at q6)
          go_roundw
          case rel => exact ⟨j + 1, rfl, by omega, by go_num, q6, rr.grown g6 (by intro e; injection e with e; exact hgg e.symm), hb.grown g6 (Nat.le_of_lt qs.lt) (fun r e => by cases e; exact Nat.le_refl _)⟩
          case measure => simp [intOf]; omega
        · obtain rfl : j = 2 := by omega
          rw [hs3.out] at qs
          have hd2 : ¬ ((2 : Nat) : Int) < 2 := by omega
          go_wp2_with fail
          go_roundw
          case rel => exact ⟨i + 1, rfl, by omega, by go_num, qs, hb⟩
          case measure => simp [intOf]; omega
    · obtain rfl : i = MH := by omega
      go_wp2_with fail
      go_ret
      exact ⟨rfl, d2.trans (hb.mono d2s)⟩
theorem walk (a0 : Int) (a1 : Int) (w : World) (w0 : (Lit.int .i64 a0).wf = true) (w1 : (Lit.int .i64 a1).wf = true) (hL : laidMetH Tryd.prog laidList w) :
    Calls Tryd.prog 5 #[.int .i64 a0, .int .i64 a1] w fun e w' => e = .returned (.bool true) ∧ Below w.heap.size w w' := by
  exact start a0 a1 w (bits_of_laid hL)
set_option maxRecDepth 100000 in
theorem door_met (os : Os) (args : Array Value) : laidMetH Tryd.prog laidList ((World.doorLaid Tryd.prog 400 os).forCall (fun _ _ => 0) ⟨#[], args, []⟩).memory :=
  laidMetH_of_parts3 (fuel := 8) (laidMet_of_run' 8 (by kernel_rfl) (by kernel_rfl)) (by kernel_rfl) (by kernel_rfl)
set_option maxRecDepth 100000 in
theorem lifted (os : Os) (started : os.Started) (H : Type) (enc : TypeId × Value → H) :
    ReturnsInHanded {} Tryd.checked os 5 .any (fun w args => (Rows.bitonicOnceSpec.pre enc Tryd.prog Tryd.f5 [] false w args ∧ laidMetH Tryd.prog laidList w) ∧ sizedMet enc Tryd.prog Tryd.f5 (OpenSpec.ofChange Rows.bitonicOnceSpec) false w args)
      (Rows.bitonicOnceSpec.post enc Tryd.prog Tryd.f5 false true false false) := by
  refine returnsInHanded_of_change_and (C := Tryd.checked) (X := fun w _ => laidMetH Tryd.prog laidList w) (fun _ _ _ hh h => h.of_heap hh) own started (by kernel_rfl) Tryd.func5
    (ChangeSpec.witness_shaped (enc := enc) (C := Tryd.checked) (os := os) (X := fun w _ => laidMetH Tryd.prog laidList w) false (World.doorLaid Tryd.prog 400 os) #[.int .i64 0, .int .i64 0] 8 rfl (World.shaped_of_RefB (by kernel_rfl) (by kernel_rfl)) (by kernel_rfl) (by kernel_rfl) (by kernel_rfl) (door_met os _)) ?_
  intro W base args ds gs before hval0 hW _ _ hL _
  have hval : ∀ (j : Nat) t v, Tryd.f5.params[j]? = some t → args[j]? = some v → Value.okWide Tryd.prog W .any base t v := hval0
  have hW' := hW
  obtain ⟨p, q, hA0, hV, rfl, hfz, hnd⟩ := hW
  have hA : DataW.TrodAll enc Tryd.prog W 0 (fun _ => true) true Tryd.f5.params.toList args.toList ds p := hA0
  rw [Tryd.params5] at hA hval
  obtain ⟨v0, vs0, d0, ds0, p0, q0, hargs, rfl, rfl, h0, r0⟩ := trodAll_cons hA
  obtain ⟨v1, vs1, d1, ds1, p1, q1, rfl, rfl, rfl, h1, r1⟩ := trodAll_cons r0
  obtain ⟨rfl, rfl, rfl⟩ := trodAll_nil r1
  obtain rfl : args = #[v0, v1] := by cases args; simp_all
  obtain ⟨rfl, rfl⟩ := trodVars_none hV
  obtain ⟨a0, rfl, rfl, rfl, w0⟩ := open_int Tryd.underlying3 (hval 0 3 v0 rfl rfl) h0
  obtain ⟨a1, rfl, rfl, rfl, w1⟩ := open_int Tryd.underlying3 (hval 1 3 v1 rfl rfl) h1
  clear hA0 hval0
  refine (walk a0 a1 W w0 w1 hL).mono fun e W' ⟨he, bel⟩ => ?_
  subst he
  exact ⟨_, rfl, _, _, _, [], _, [], hW', trodAll_mk1 (shut_bool Tryd.underlying4 _), (trodAll_cons_mk (shut_int Tryd.underlying3 w0) (trodAll_cons_mk (shut_int Tryd.underlying3 w1) trodAll_mk0)), rfl, bel.frame _, fun h => by cases h⟩
theorem over : Rows.bitonicOnceRow.holds Tryd.pinned (OpenSpec.ofChange Rows.bitonicOnceSpec) :=
  OpenClaim.holds_of_wide 5 Tryd.f5 rfl rfl rfl rfl rfl rfl rfl ⟨rfl, rfl, rfl, rfl, rfl⟩ rfl rfl rfl rfl rfl (by kernel_rfl) Tryd.func5 (by kernel_rfl)
    (of_decide_eq_true (by kernel_rfl)) (by unfold Func.isWrapper; first | (rw [if_pos (by decide +kernel)]; kernel_rfl) | (rw [if_neg (by decide +kernel)]; exact ⟨rfl, rfl⟩))
    (fun os started H enc _ => lifted os started H enc)
theorem proved : Rows.BitonicOnceCardSaid :=
  Claim7.holds_tied_plain_at .later [] [.data, .data] true (true, "fe6b619c45518272eea54a06a8755bdeb49c69dd8d85b33a095b4b463a443c00") false
    over (fun _ h => by cases h) (by kernel_rfl) (fun _ h => by cases h) bitonicOnce_row_tie rfl ⟨rfl, rfl⟩ (by kernel_rfl) rfl
    (fun f fn hf hfn => by
      obtain rfl : f = 5 := Option.some.inj ((show Tryd.prog.funcNamed "domino/dominolaw13.BitonicOnce" = some 5 by kernel_rfl).symm.trans hf) |>.symm
      obtain rfl : fn = Tryd.f5 := (Option.some.inj (Tryd.func5.symm.trans hfn)).symm
      exact ⟨by kernel_rfl, fun j t ht => by
        rw [Tryd.params5] at ht
        have hm : t ∈ [3, 3] := by simpa using Array.mem_of_getElem? ht
        have hall : ([3, 3].all fun u => !Tryd.prog.wantsStandIn u) = true := by kernel_rfl
        exact (show Tryd.prog.wantsStandIn t = false by simpa using List.all_eq_true.1 hall t hm)⟩)
    (by kernel_rfl)
#print axioms proved
end Go.Proofs.YtagcnbcmegdgmaaDoor.bitonicOnce
