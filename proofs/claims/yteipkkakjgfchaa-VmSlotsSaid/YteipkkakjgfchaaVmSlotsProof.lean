/-
  The law VmSlots of package dominolaw11 returns true for every number of slots, every list of slots, alive or not, and every record's number: a slot is what was emitted there last; numbers rise by slot, and by record.
-/
import Derived.Test.YteipkkakjgfchaaRows
import Derived.WalkKit
import Derived.ProofKit
import Derived.OpenShut
import Derived.ShutString
import Derived.ChangeOld
import Derived.Below
import Derived.Test.YteipkkakjgfchaaB6
import Derived.Test.YteipkkakjgfchaaB3
namespace Go.Proofs.Yteipkkakjgfchaa.vmSlots
open Go.ChangeShapes Go.WideShapes Go.ChangeAt Go.RowKit
open Go.ChangeMaps (open_string shut_string)
open Go.Shelf Go.Proofs.Yteipkkakjgfchaa Mem Held Rc Rs Sl Vm
theorem own : ownKnob Try.prog.godebug = none := by kernel_rfl
theorem laidOut : laidOutB Try.prog = true := by kernel_rfl
def IsRow (k : IntKind) (w : World) (a : Option Addr) (len cap : Nat) (zs : List Int) : Prop :=
  (a = none ∧ len = 0 ∧ cap = 0 ∧ zs = []) ∨
  ∃ x, a = some x ∧ len ≤ cap ∧ cap ≤ maxLen ∧ zs.length = cap ∧ (∀ i, i < zs.length → w.cell? (x.add i) = some (.int k (zs.getD i 0))) ∧ ∀ n ∈ zs, (Lit.int k n).wf = true
attribute [local irreducible] wpList Calls
def sN (K : Nat) (zs : List Int) (i : Nat) : Nat := ((IntKind.u64.wrap (zs.getD i 0)).tmod (K : Int)).toNat
def flagN (bs : List Bool) (i : Nat) : Int := if bs.getD i false = true then (i : Int) + 1 else 0
def recS (M : Int) (s : Nat) (b : Bool) : R := if b = true then ⟨false, 7, -8, wrap64 (M + (s : Int))⟩ else RD
def opsS (K : Nat) (zs : List Int) (bs : List Bool) : Nat → List O
  | 0 => []
  | i + 1 => opsS K zs bs i ++ [⟨1, 5, 0, 0, 0, flagN bs i⟩, ⟨12, 0, 0, 1, 5, (sN K zs i : Int)⟩]
def wantS (M : Int) (K : Nat) (zs : List Int) (bs : List Bool) : Nat → List R
  | 0 => List.replicate K RD
  | i + 1 => (wantS M K zs bs i).set (sN K zs i) (recS M (sN K zs i) (bs.getD i false))
theorem sN_lt {K : Nat} (h : 0 < K) (zs : List Int) (i : Nat) : sN K zs i < K ∧ wrap64 ((IntKind.u64.wrap (zs.getD i 0)).tmod (K : Int)) = (sN K zs i : Int) ∨ 9223372036854775807 < K := by
  by_cases hK : 9223372036854775807 < K
  · exact .inr hK
  left
  have hu : 0 ≤ IntKind.u64.wrap (zs.getD i 0) := by rw [IntKind.wrap_u64]; omega
  unfold sN
  generalize IntKind.u64.wrap (zs.getD i 0) = u at hu ⊢
  have h1 : 0 ≤ u % (K : Int) := Int.emod_nonneg _ (by omega)
  have h2 : u % (K : Int) < (K : Int) := Int.emod_lt_of_pos _ (by omega)
  rw [Int.tmod_eq_emod_of_nonneg hu]
  refine ⟨by omega, ?_⟩
  unfold wrap64
  omega
theorem opsS_length (K : Nat) (zs : List Int) (bs : List Bool) : ∀ i, (opsS K zs bs i).length = 2 * i
  | 0 => rfl
  | i + 1 => by rw [opsS, List.length_append, opsS_length K zs bs i]; simp; omega
theorem flagN_wf (bs : List Bool) {i : Nat} (h : i ≤ 20) : (Lit.int .i64 (flagN bs i)).wf = true := by
  unfold flagN
  split
  · simp [Lit.wf, IntKind.min, IntKind.max, IntKind.signed, IntKind.bits]
    omega
  · rfl
theorem nat_wf {n : Nat} (h : n ≤ 1000) : (Lit.int .i64 (n : Int)).wf = true := by
  simp [Lit.wf, IntKind.min, IntKind.max, IntKind.signed, IntKind.bits]
  omega
theorem opsS_wf {K : Nat} (h0 : 0 < K) (h4 : K ≤ 4) (zs : List Int) (bs : List Bool) : ∀ i, i ≤ 20 → ∀ o ∈ opsS K zs bs i, o.wf
  | 0, _, o, ho => by cases ho
  | i + 1, hi, o, ho => by
    have hs := ((sN_lt h0 zs i).resolve_right (by omega)).1
    rw [opsS] at ho
    rcases List.mem_append.1 ho with ho | ho
    · exact opsS_wf h0 h4 zs bs i (by omega) o ho
    · rcases List.mem_cons.1 ho with rfl | ho
      · exact ⟨rfl, rfl, rfl, rfl, rfl, flagN_wf bs (by omega)⟩
      · rw [List.mem_singleton.1 ho]
        exact ⟨rfl, rfl, rfl, rfl, rfl, nat_wf (by omega)⟩
theorem opsS_may {K : Nat} (h0 : 0 < K) (h4 : K ≤ 4) (zs : List Int) (bs : List Bool) : ∀ i, (opsS K zs bs i).all (mayO · (K : Int)) = true
  | 0 => rfl
  | i + 1 => by
    have hs := ((sN_lt h0 zs i).resolve_right (by omega)).1
    rw [opsS, List.all_append, opsS_may h0 h4 zs bs i, Bool.true_and]
    have e2 : mayO ⟨12, 0, 0, 1, 5, (sN K zs i : Int)⟩ (K : Int) = true := by
      rw [mayO_eq]
      simp [mayC, isReg]
      omega
    simp only [List.all_cons, List.all_nil, Bool.and_true, e2]
    rfl
theorem opsS_check {K : Nat} (h0 : 0 < K) (h4 : K ≤ 4) (zs : List Int) (bs : List Bool) {i : Nat} (hi : i ≤ 20) : checkB (K : Int) (opsS K zs bs i) [] [] = true := by
  have h1 := opsS_length K zs bs i
  have h2 := opsS_may h0 h4 zs bs i
  unfold checkB mayP
  rw [h2, decide_eq_true (show (opsS K zs bs i).length ≤ 40 by omega), decide_eq_true (show (1 : Int) ≤ (K : Int) by omega), decide_eq_true (show (K : Int) ≤ 4 by omega)]
  rfl
theorem opsS_regs (K : Nat) (zs : List Int) (bs : List Bool) (n : Int) : ∀ i, ∃ x, runR (opsS K zs bs i) [7, -8, n, 0, 0, 0, 0, 0] = [7, -8, n, 0, 0, x, 0, 0]
  | 0 => ⟨0, rfl⟩
  | i + 1 => by
    obtain ⟨x, hx⟩ := opsS_regs K zs bs n i
    refine ⟨flagN bs i, ?_⟩
    rw [opsS, runR_append, hx]
    rfl
theorem opsS_out (K : Nat) (zs : List Int) (bs : List Bool) (n M : Int) : ∀ i, runOut M (opsS K zs bs i) [7, -8, n, 0, 0, 0, 0, 0] (List.replicate K RD) = wantS M K zs bs i
  | 0 => rfl
  | i + 1 => by
    obtain ⟨x, hx⟩ := opsS_regs K zs bs n i
    rw [opsS, runOut_append, hx, opsS_out K zs bs n M i, wantS]
    have e : runOut M [⟨1, 5, 0, 0, 0, flagN bs i⟩, ⟨12, 0, 0, 1, 5, (sN K zs i : Int)⟩] [7, -8, n, 0, 0, x, 0, 0] (wantS M K zs bs i) = (wantS M K zs bs i).set ((sN K zs i : Int).toNat) (emitR M ⟨12, 0, 0, 1, 5, (sN K zs i : Int)⟩ [7, -8, n, 0, 0, flagN bs i, 0, 0]) := rfl
    rw [e, Int.toNat_natCast]
    congr 1
    unfold emitR recS
    have e5 : reg [7, -8, n, 0, 0, flagN bs i, 0, 0] 5 = flagN bs i := rfl
    dsimp only
    rw [e5]
    unfold flagN
    by_cases hb : bs.getD i false = true
    · rw [if_pos hb, if_pos hb, if_neg (by omega)]
      rfl
    · rw [if_neg hb, if_neg hb, if_pos rfl]
theorem opsS_map {K : Nat} (h0 : 0 < K) (h4 : K ≤ 4) (zs : List Int) (bs : List Bool) {i : Nat} (hi : i ≤ 20) (n : Int) : mapR (K : Int) (opsS K zs bs i) [] [] n 7 (-8) = wantS (wrap64 (n * (K : Int))) K zs bs i := by
  rw [mapR, if_pos (opsS_check h0 h4 zs bs hi), Int.toNat_natCast]
  exact opsS_out K zs bs n _ i
theorem recS_wf (M : Int) (s : Nat) (b : Bool) : (recS M s b).wf := by
  unfold recS
  split
  · exact ⟨rfl, rfl, wrap64_wf _⟩
  · exact ⟨rfl, rfl, rfl⟩
theorem wantS_wf (M : Int) (K : Nat) (zs : List Int) (bs : List Bool) : ∀ i, ∀ r ∈ wantS M K zs bs i, r.wf
  | 0, r, hr => by rw [List.eq_of_mem_replicate hr]; exact ⟨rfl, rfl, rfl⟩
  | i + 1, r, hr => by
    rcases List.mem_or_eq_of_mem_set hr with hr | rfl
    · exact wantS_wf M K zs bs i r hr
    · exact recS_wf _ _ _
theorem wantS_length (M : Int) (K : Nat) (zs : List Int) (bs : List Bool) : ∀ i, (wantS M K zs bs i).length = K
  | 0 => by simp [wantS]
  | i + 1 => by rw [wantS, List.length_set, wantS_length M K zs bs i]
set_option maxRecDepth 100000 in
set_option maxHeartbeats 16000000 in
theorem start (x n : Int) (Az Ab : Option Addr) (len cz mb cb : Nat) (zs : List Int) (bs : List Bool) (w : World) (hzs : Ints w .i64 w.heap.size Az len zs) (hbs : Lst kB w w.heap.size Ab mb bs) (hmb : mb ≤ maxLen) (KN K : Nat) (hKN : wrap64 ((IntKind.u64.wrap x).tmod 4) = (KN : Int)) (hKN4 : KN < 4) (hK : K = 1 + KN) :
    Calls Try.prog 4 #[.int .i64 x, .slice Az len cz, .slice Ab mb cb, .int .i64 n] w fun e w' => e = .returned (.bool true) ∧ Below w.heap.size w w' := by
  have hK4 : K ≤ 4 := by omega
  have hK0 : 0 < K := by omega
  have hKi : 1 + (KN : Int) = (K : Int) := by omega
  clear hK
  have hN8 : len ≤ 20 ∨ 20 < len := by omega
  have hKu : IntKind.u64.wrap (K : Int) = (K : Int) := by rw [IntKind.wrap_u64]; omega
  obtain ⟨n', hn'⟩ : ∃ n', bits .and .i64 n 1023 = n' := ⟨_, rfl⟩
  have hnw : (Lit.int .i64 n').wf = true := by rw [← hn']; exact bits_wf' _ (.inl rfl) _ _
  obtain ⟨M, hM⟩ : ∃ M, wrap64 (n' * (K : Int)) = M := ⟨_, rfl⟩
  rcases hN8 with hlen | hlen
  · have hlen' : ¬ (len : Int) > 20 := by omega
    have HMAP := Lib.hid (opsS_map hK0 hK4 zs bs hlen n')
    have HOW := Lib.hid (opsS_wf hK0 hK4 zs bs)
    have HWW := Lib.hid (wantS_wf M K zs bs len)
    have HREP := Lib.hid (fun i (hi : i < K) => set_rep RD R0 hi)
    rw [hM] at HMAP
    go_enter Try.func4, Try.ntmps4
    go_wp2_with (first
      | (refine wpList_build_blk rfl 27 #[_] rfl #[.int .i64 (K : Int), .slice none 0 0, .slice none 0 0, .slice none 0 0] (by kernel_rfl) ?_)
      | (refine wpList_alloc_blk (w := w) rfl 27 rfl _ zero_prog ?_; intro w1 q1 g1 z1)
      | (refine wpList_store_blk (w := w1) rfl 27 _ _ rfl w.heap.size 4 rfl 27 _ #[.int .i64 (K : Int), .slice none 0 0, .slice none 0 0, .slice none 0 0] rfl q1 info_prog rfl rfl (by kernel_rfl) ?_; intro w2 q2 g2 z2)
      | (refine wpList_make_lst (k := kR) w2 rfl _ _ 34 rfl w2.heap.size 36 Try.underlying34 32 info_rec3 .i64 .i64 K _ _ rfl rfl rfl rfl (by omega) (by simp [maxLen]; omega) (Nat.le_refl _) ?_; intro w3 q3 o3 g3))
    have l1 := q1.lt
    have l2 := q2.lt
    have l3 := q3.lt
    have b3 : Below w.heap.size w w3 := (((Below.refl _ w).grown g1 (Nat.le_refl _) (by simp)).grown g2 g1.size (fun r e => by cases e; exact Nat.le_refl _)).grown g3 (Nat.le_trans g1.size g2.size) (by simp)
    have q2 := q2.grown g3 (by simp)
    have hgPw : w2.heap.size ≠ w.heap.size := by omega
    have hlP : w.heap.size ≤ w.heap.size := Nat.le_refl _
    have hlw : w.heap.size ≤ w2.heap.size := by omega
    clear q1 g1 g2 g3 z1 z2 o3 l1 l2
    have haddr0 := fun i (hi : i < K) W => run_addr_of (P := Try.prog) 34 36 w2.heap.size 0 K K i 4 .i64 Try.underlying34 size_rec hi W
    go_loopw [33] (fun x wr => ∃ i : Nat, i ≤ K ∧ x = .int .i64 i ∧ Blk wr w2.heap.size 36 (flat kR (List.replicate i RD ++ List.replicate (K - i) R0)).toArray ∧ Blk wr w.heap.size 27 #[.int .i64 (K : Int), .slice none 0 0, .slice none 0 0, .slice none 0 0] ∧ Below w.heap.size w wr) (fun x _ => K - (intOf x).toNat)
    case atStart => exact ⟨0, by omega, rfl, by simpa using (show Blk w3 w2.heap.size 36 (flat kR (List.replicate K R0)).toArray from q3), q2, b3⟩
    case round =>
      clear q2 q3 b3
      obtain ⟨i, hi, rfl, qw, q, b⟩ := hrel
      by_cases hlt : i < K
      · have hlt' : (i : Int) < (K : Int) := by omega
        have hi0 : (0 : Int) ≤ (i : Int) := by omega
        have haddr := haddr0 i hlt
        have HR := Lib.hid (HREP.out i hlt)
        go_wp2_with (first
          | (refine wpList_build_blk rfl 36 #[_] rfl #[.bool true, .int .i64 0, .int .i64 0, .int .i64 0] (by kernel_rfl) ?_)
          | (refine wpList_run (w := wr) rfl (v := .pointer (some ⟨w2.heap.size, i * 4, none⟩)) (Held.y_addr (S := fun _ => True) rfl rfl rfl (fun W => by have := haddr W; rwa [Nat.zero_add] at this) _ trivial) ?_)
          | (refine wpList_store_lstB (k := kR) (w := wr) rfl 36 _ _ rfl size_rec w2.heap.size (i * 4) i 36 (List.replicate i RD ++ List.replicate (K - i) R0) RD rfl rfl rfl qw (by simp; omega) ?_; intro v1 q1 g1; rw [HR.out] at q1))
        go_roundw
        case rel => exact ⟨i + 1, by omega, by go_num, q1, q.grown g1 (by simpa using hgPw.symm), b.grown g1 (by have := b.size; omega) (fun r e => by cases e; omega)⟩
        case measure => simp [intOf]; omega
      · have hiK : K = i := by omega
        subst hiK
        rw [Nat.sub_self, List.replicate_zero, List.append_nil] at qw
        clear HREP hlt
        go_wp2_with fail
        go_loopw [12] (fun x wr => ∃ (i L c1 : Nat) (A1 : Option Addr), i ≤ len ∧ x = .int .i64 i ∧ Hid ((opsS K zs bs i).length = L) ∧ Blk wr w.heap.size 27 #[.int .i64 (K : Int), .slice A1 L c1, .slice none 0 0, .slice none 0 0] ∧ OwnL kO 24 wr w.heap.size (.slice A1 L c1) (opsS K zs bs i) ∧ Blk wr w2.heap.size 36 (flat kR (wantS M K zs bs i)).toArray ∧ Below w.heap.size w wr) (fun x _ => len - (intOf x).toNat)
        case atStart => exact ⟨0, 0, 0, none, by omega, rfl, Lib.hid rfl, q, OwnL.nil _ _ _ _, qw, b⟩
        case round =>
          clear q qw b
          obtain ⟨i, L, c1, A1, hi, rfl, HL, q, o, qw, b⟩ := hrel
          have hi0 : (0 : Int) ≤ (i : Int) := by omega
          have hlpw := q.lt
          have hlww := qw.lt
          by_cases hlt : i < len
          · have hlt' : (i : Int) < (len : Int) := by omega
            obtain ⟨b0, off, rfl, hb0, hcz⟩ := (hzs.below b).2.2 (by omega)
            have hcz1 := hcz i hlt
            clear hcz
            obtain ⟨hs, hsv⟩ := (sN_lt hK0 zs i).resolve_right (by omega)
            obtain ⟨s, hsE⟩ : ∃ s, sN K zs i = s := ⟨_, rfl⟩
            rw [hsE] at hs hsv
            have HSV := Lib.hid hsE
            clear hsE
            generalize zs.getD i 0 = z at hcz1 hsv
            have hcell := q.cell (i := 1) rfl
            have hne := o.ne_blk q (by decide)
            have hnw := o.ne_blk qw (by decide)
            have haddr : ∀ W, (Instr.indexAt 34 (.slice (some ⟨w2.heap.size, 0, none⟩) K K) (.int .i64 (s : Int))).run Try.prog W = .ok (.pointer (some ⟨w2.heap.size, s * 4, none⟩)) W := fun W => by
              have := haddr0 s hs W
              rwa [Nat.zero_add] at this
            have HSW := Lib.hid (show (Lit.int .i64 (s : Int)).wf = true from nat_wf (by omega))
            have HWL := Lib.hid (wantS_length M K zs bs i)
            have hbl := hbs.below b
            have hLb : L ≤ 40 := by rw [← HL.out, opsS_length]; omega
            by_cases hb : bs.getD i false = true
            · have him : i < mb := by
                rw [← hbl.1]
                refine Nat.lt_of_not_le fun hle => ?_
                rw [List.getD_eq_getElem?_getD, List.getElem?_eq_none hle] at hb
                cases hb
              have hd : decide ((i : Int) < (mb : Int)) = true := decide_eq_true (by omega)
              obtain ⟨bb, bo, rfl, hbb, hcb⟩ := hbl.at_ him
              have hcb : wr.cell? ⟨bb, bo + i, none⟩ = some (.bool true) := by
                have := hcb 0 _ rfl
                rw [← hb]
                simpa [kB] using this
              have hls : s < (wantS M K zs bs i).length := by rw [HWL.out]; exact hs
              have HFL := Lib.hid (show flagN bs i = ((i : Int) + 1) by rw [flagN, if_pos hb])
              have HFW := Lib.hid (show (Lit.int .i64 ((i : Int) + 1)).wf = true by rw [← HFL.out]; exact flagN_wf bs (by omega))
              have HS := Lib.hid (show opsS K zs bs (i + 1) = opsS K zs bs i ++ [⟨1, 5, 0, 0, 0, ((i : Int) + 1)⟩, ⟨12, 0, 0, 1, 5, (s : Int)⟩] by rw [opsS, HFL.out, HSV.out])
              have HWS := Lib.hid (show wantS M K zs bs (i + 1) = ((wantS M K zs bs i).set s RD).set s ⟨false, 7, -8, wrap64 (M + (s : Int))⟩ by rw [wantS, HSV.out, hb]; rw [List.set_set]; rfl)
              go_wp2_with (first
                | (refine wpList_run (w := wr) rfl (v := .pointer (some ⟨w.heap.size, 1, none⟩)) (Held.y_field (S := fun _ => True) (k := 1) (s := 0) rfl rfl Try.underlying27 rfl (by kernel_rfl) rfl _ trivial) ?_)
                | (refine wpList_build_blk (w := wr) rfl 24 #[_, _, _] rfl #[.int .i64 1, .int .i64 5, .int .i64 0, .int .i64 0, .int .i64 0, .int .i64 (((i : Int) + 1))] (by kernel_rfl) ?_)
                | (refine wpList_build_blk (w := wr) rfl 24 #[_, _, _, _, _] rfl #[.int .i64 12, .int .i64 0, .int .i64 0, .int .i64 1, .int .i64 5, .int .i64 ((s : Int))] (by kernel_rfl) ?_)
                | (refine wpList_build_lst (w := wr) (k := kO) rfl 25 24 2 _ rfl Try.underlying25 _ 48 info_op rfl [⟨1, 5, 0, 0, 0, ((i : Int) + 1)⟩, ⟨12, 0, 0, 1, 5, (s : Int)⟩] rfl (by kernel_rfl) (by omega) (by decide) ?_; intro x1_1 q1_1 g1_1 z1_1; have o1_1 := o.kept g1_1 (by cases (Value.slice A1 L c1).ownBlock <;> simp); have p1_1 := q.grown g1_1 (by simp); have b1_1 := b.grown g1_1 b.size (by simp); have i1_1 : Lst kO x1_1 x1_1.heap.size (some ⟨wr.heap.size, 0, none⟩) 2 [⟨1, 5, 0, 0, 0, ((i : Int) + 1)⟩, ⟨12, 0, 0, 1, 5, (s : Int)⟩] := lst_whole q1_1 rfl (fun x hx => by simp only [List.mem_cons, List.not_mem_nil, or_false] at hx; rcases hx with rfl | rfl; (· exact ⟨rfl, rfl, rfl, rfl, rfl, HFW.out⟩); (· exact ⟨rfl, rfl, rfl, rfl, rfl, HSW.out⟩)))
                | (at_builtin; refine wpList_append_lst (w := x1_1) (k := kO) rfl _ _ 25 24 rfl Try.underlying25 _ 48 info_op rfl w.heap.size x1_1.heap.size wr.heap.size 0 2 2 (.slice A1 L c1) (opsS K zs bs i) [⟨1, 5, 0, 0, 0, ((i : Int) + 1)⟩, ⟨12, 0, 0, 1, 5, (s : Int)⟩] rfl rfl o1_1 i1_1 (by rw [HL.out]; omega) (by omega) b1_1.size ?_; intro vv_1 x2_1 o2_1 g2_1 t2_1; rw [← HS.out] at o2_1; obtain ⟨A_1, L_1, c_1, rfl, HL_1, hc_1⟩ := o2_1.form2; have p2_1 := p1_1.grown g2_1 (Ne.symm hne); have b2_1 := b1_1.grown g2_1 b1_1.size (fun r e => (o1_1.lt r e).1); have ne_1 := o2_1.ne_blk p2_1 (by decide))
                | (refine wpList_run (w := x2_1) rfl (v := .pointer (some ⟨w.heap.size, 1, none⟩)) (Held.y_field (S := fun _ => True) (k := 1) (s := 0) rfl rfl Try.underlying27 rfl (by kernel_rfl) rfl _ trivial) ?_)
                | (refine wpList_store_field (w := x2_1) rfl 25 _ _ rfl w.heap.size 1 rfl 27 _ (.slice A_1 L_1 c_1) rfl p2_1 (by simp) (by kernel_rfl) rfl rfl ?_; intro v_1 q3_1 g3_1 z3_1; have o_1 := o2_1.kept g3_1 (.inr ne_1); have b_1 := b2_1.grown g3_1 b2_1.size (fun r e => by cases e; exact hlP); have q_1 : Blk v_1 w.heap.size 27 #[.int .i64 (K : Int), .slice A_1 L_1 c_1, .slice none 0 0, .slice none 0 0] := q3_1; have cell_1 := q_1.cell (i := 1) rfl; have w_1 : Blk v_1 w2.heap.size 36 (flat kR (wantS M K zs bs i)).toArray := ((qw.grown g1_1 (by simp)).grown g2_1 (fun e => hnw e.symm)).grown g3_1 (by simpa using hgPw); clear q1_1 p1_1 p2_1 g1_1 g2_1 g3_1 z1_1 z3_1 t2_1 o1_1 b1_1 b2_1 i1_1 o2_1)
                | (refine wpList_run (w := v_1) rfl (v := .pointer (some ⟨w2.heap.size, s * 4, none⟩)) (Held.y_addr (S := fun _ => True) rfl rfl rfl haddr _ trivial) ?_)
                | (refine wpList_build_blk rfl 36 #[_] rfl #[.bool true, .int .i64 0, .int .i64 0, .int .i64 0] (by kernel_rfl) ?_)
                | (refine wpList_store_lstB (k := kR) (w := v_1) rfl 36 _ _ rfl size_rec w2.heap.size (s * 4) s 36 (wantS M K zs bs i) RD rfl rfl rfl w_1 hls ?_; intro v5 w5 g5)
                | (refine wpList_run (w := v5) rfl (v := .pointer (some ⟨w2.heap.size, s * 4, none⟩)) (Held.y_addr (S := fun _ => True) rfl rfl rfl haddr _ trivial) ?_)
                | (refine wpList_build_blk rfl 36 #[_, _, _] rfl #[.bool false, .int .i64 7, .int .i64 (-8), .int .i64 (wrap64 (M + (s : Int)))] (by kernel_rfl) ?_)
                | (refine wpList_store_lstB (k := kR) (w := v5) rfl 36 _ _ rfl size_rec w2.heap.size (s * 4) s 36 ((wantS M K zs bs i).set s RD) ⟨false, 7, -8, wrap64 (M + (s : Int))⟩ rfl rfl rfl w5 (by rw [List.length_set]; exact hls) ?_; intro v6 w6 g6))
              have b6 : Below w.heap.size w v6 := b_1.grown g5 b_1.size (fun r e => by cases e; exact hlw) |>.grown g6 (Nat.le_trans b_1.size g5.size) (fun r e => by cases e; exact hlw)
              have q6 : Blk v6 w.heap.size 27 #[.int .i64 (K : Int), .slice A_1 L_1 c_1, .slice none 0 0, .slice none 0 0] := (q_1.grown g5 (by simpa using hgPw.symm)).grown g6 (by simpa using hgPw.symm)
              have o6 := (o_1.kept g5 (.inr (o_1.ne_blk w_1 (by decide)))).kept g6 (.inr ((o_1.kept g5 (.inr (o_1.ne_blk w_1 (by decide)))).ne_blk w5 (by decide)))
              rw [← HWS.out] at w6
              go_roundw
              case rel => exact ⟨i + 1, L_1, c_1, A_1, by omega, by go_num, HL_1, q6, o6, w6, b6⟩
              case measure => simp [intOf]; omega
            · have hb : bs.getD i false = false := by simpa using hb
              by_cases him : i < mb
              · have hd : decide ((i : Int) < (mb : Int)) = true := decide_eq_true (by omega)
                obtain ⟨bb, bo, rfl, hbb, hcb⟩ := hbl.at_ him
                have hcb : wr.cell? ⟨bb, bo + i, none⟩ = some (.bool false) := by
                  have := hcb 0 _ rfl
                  rw [← hb]
                  simpa [kB] using this
                have hls : s < (wantS M K zs bs i).length := by rw [HWL.out]; exact hs
                have HFL := Lib.hid (show flagN bs i = 0 by rw [flagN, if_neg (by rw [hb]; decide)])
                have HFW := Lib.hid (show (Lit.int .i64 0).wf = true by rw [← HFL.out]; exact flagN_wf bs (by omega))
                have HS := Lib.hid (show opsS K zs bs (i + 1) = opsS K zs bs i ++ [⟨1, 5, 0, 0, 0, 0⟩, ⟨12, 0, 0, 1, 5, (s : Int)⟩] by rw [opsS, HFL.out, HSV.out])
                have HWS := Lib.hid (show wantS M K zs bs (i + 1) = (wantS M K zs bs i).set s RD by rw [wantS, HSV.out, hb]; rfl)
                go_wp2_with (first
                  | (refine wpList_run (w := wr) rfl (v := .pointer (some ⟨w.heap.size, 1, none⟩)) (Held.y_field (S := fun _ => True) (k := 1) (s := 0) rfl rfl Try.underlying27 rfl (by kernel_rfl) rfl _ trivial) ?_)
                  | (refine wpList_build_blk (w := wr) rfl 24 #[_, _, _] rfl #[.int .i64 1, .int .i64 5, .int .i64 0, .int .i64 0, .int .i64 0, .int .i64 0] (by kernel_rfl) ?_)
                  | (refine wpList_build_blk (w := wr) rfl 24 #[_, _, _, _, _] rfl #[.int .i64 12, .int .i64 0, .int .i64 0, .int .i64 1, .int .i64 5, .int .i64 ((s : Int))] (by kernel_rfl) ?_)
                  | (refine wpList_build_lst (w := wr) (k := kO) rfl 25 24 2 _ rfl Try.underlying25 _ 48 info_op rfl [⟨1, 5, 0, 0, 0, 0⟩, ⟨12, 0, 0, 1, 5, (s : Int)⟩] rfl (by kernel_rfl) (by omega) (by decide) ?_; intro x1_1 q1_1 g1_1 z1_1; have o1_1 := o.kept g1_1 (by cases (Value.slice A1 L c1).ownBlock <;> simp); have p1_1 := q.grown g1_1 (by simp); have b1_1 := b.grown g1_1 b.size (by simp); have i1_1 : Lst kO x1_1 x1_1.heap.size (some ⟨wr.heap.size, 0, none⟩) 2 [⟨1, 5, 0, 0, 0, 0⟩, ⟨12, 0, 0, 1, 5, (s : Int)⟩] := lst_whole q1_1 rfl (fun x hx => by simp only [List.mem_cons, List.not_mem_nil, or_false] at hx; rcases hx with rfl | rfl; (· exact ⟨rfl, rfl, rfl, rfl, rfl, HFW.out⟩); (· exact ⟨rfl, rfl, rfl, rfl, rfl, HSW.out⟩)))
                  | (at_builtin; refine wpList_append_lst (w := x1_1) (k := kO) rfl _ _ 25 24 rfl Try.underlying25 _ 48 info_op rfl w.heap.size x1_1.heap.size wr.heap.size 0 2 2 (.slice A1 L c1) (opsS K zs bs i) [⟨1, 5, 0, 0, 0, 0⟩, ⟨12, 0, 0, 1, 5, (s : Int)⟩] rfl rfl o1_1 i1_1 (by rw [HL.out]; omega) (by omega) b1_1.size ?_; intro vv_1 x2_1 o2_1 g2_1 t2_1; rw [← HS.out] at o2_1; obtain ⟨A_1, L_1, c_1, rfl, HL_1, hc_1⟩ := o2_1.form2; have p2_1 := p1_1.grown g2_1 (Ne.symm hne); have b2_1 := b1_1.grown g2_1 b1_1.size (fun r e => (o1_1.lt r e).1); have ne_1 := o2_1.ne_blk p2_1 (by decide))
                  | (refine wpList_run (w := x2_1) rfl (v := .pointer (some ⟨w.heap.size, 1, none⟩)) (Held.y_field (S := fun _ => True) (k := 1) (s := 0) rfl rfl Try.underlying27 rfl (by kernel_rfl) rfl _ trivial) ?_)
                  | (refine wpList_store_field (w := x2_1) rfl 25 _ _ rfl w.heap.size 1 rfl 27 _ (.slice A_1 L_1 c_1) rfl p2_1 (by simp) (by kernel_rfl) rfl rfl ?_; intro v_1 q3_1 g3_1 z3_1; have o_1 := o2_1.kept g3_1 (.inr ne_1); have b_1 := b2_1.grown g3_1 b2_1.size (fun r e => by cases e; exact hlP); have q_1 : Blk v_1 w.heap.size 27 #[.int .i64 (K : Int), .slice A_1 L_1 c_1, .slice none 0 0, .slice none 0 0] := q3_1; have cell_1 := q_1.cell (i := 1) rfl; have w_1 : Blk v_1 w2.heap.size 36 (flat kR (wantS M K zs bs i)).toArray := ((qw.grown g1_1 (by simp)).grown g2_1 (fun e => hnw e.symm)).grown g3_1 (by simpa using hgPw); clear q1_1 p1_1 p2_1 g1_1 g2_1 g3_1 z1_1 z3_1 t2_1 o1_1 b1_1 b2_1 i1_1 o2_1)
                  | (refine wpList_run (w := v_1) rfl (v := .pointer (some ⟨w2.heap.size, s * 4, none⟩)) (Held.y_addr (S := fun _ => True) rfl rfl rfl haddr _ trivial) ?_)
                  | (refine wpList_build_blk rfl 36 #[_] rfl #[.bool true, .int .i64 0, .int .i64 0, .int .i64 0] (by kernel_rfl) ?_)
                  | (refine wpList_store_lstB (k := kR) (w := v_1) rfl 36 _ _ rfl size_rec w2.heap.size (s * 4) s 36 (wantS M K zs bs i) RD rfl rfl rfl w_1 hls ?_; intro v5 w5 g5))
                have b5 : Below w.heap.size w v5 := b_1.grown g5 b_1.size (fun r e => by cases e; exact hlw)
                have q6 : Blk v5 w.heap.size 27 #[.int .i64 (K : Int), .slice A_1 L_1 c_1, .slice none 0 0, .slice none 0 0] := (q_1.grown g5 (by simpa using hgPw.symm))
                have o6 := (o_1.kept g5 (.inr (o_1.ne_blk w_1 (by decide))))
                rw [← HWS.out] at w5
                go_roundw
                case rel => exact ⟨i + 1, L_1, c_1, A_1, by omega, by go_num, HL_1, q6, o6, w5, b5⟩
                case measure => simp [intOf]; omega
              · have hd : decide ((i : Int) < (mb : Int)) = false := decide_eq_false (by omega)
                have hls : s < (wantS M K zs bs i).length := by rw [HWL.out]; exact hs
                have HFL := Lib.hid (show flagN bs i = 0 by rw [flagN, if_neg (by rw [hb]; decide)])
                have HFW := Lib.hid (show (Lit.int .i64 0).wf = true by rw [← HFL.out]; exact flagN_wf bs (by omega))
                have HS := Lib.hid (show opsS K zs bs (i + 1) = opsS K zs bs i ++ [⟨1, 5, 0, 0, 0, 0⟩, ⟨12, 0, 0, 1, 5, (s : Int)⟩] by rw [opsS, HFL.out, HSV.out])
                have HWS := Lib.hid (show wantS M K zs bs (i + 1) = (wantS M K zs bs i).set s RD by rw [wantS, HSV.out, hb]; rfl)
                go_wp2_with (first
                  | (refine wpList_run (w := wr) rfl (v := .pointer (some ⟨w.heap.size, 1, none⟩)) (Held.y_field (S := fun _ => True) (k := 1) (s := 0) rfl rfl Try.underlying27 rfl (by kernel_rfl) rfl _ trivial) ?_)
                  | (refine wpList_build_blk (w := wr) rfl 24 #[_, _, _] rfl #[.int .i64 1, .int .i64 5, .int .i64 0, .int .i64 0, .int .i64 0, .int .i64 0] (by kernel_rfl) ?_)
                  | (refine wpList_build_blk (w := wr) rfl 24 #[_, _, _, _, _] rfl #[.int .i64 12, .int .i64 0, .int .i64 0, .int .i64 1, .int .i64 5, .int .i64 ((s : Int))] (by kernel_rfl) ?_)
                  | (refine wpList_build_lst (w := wr) (k := kO) rfl 25 24 2 _ rfl Try.underlying25 _ 48 info_op rfl [⟨1, 5, 0, 0, 0, 0⟩, ⟨12, 0, 0, 1, 5, (s : Int)⟩] rfl (by kernel_rfl) (by omega) (by decide) ?_; intro x1_1 q1_1 g1_1 z1_1; have o1_1 := o.kept g1_1 (by cases (Value.slice A1 L c1).ownBlock <;> simp); have p1_1 := q.grown g1_1 (by simp); have b1_1 := b.grown g1_1 b.size (by simp); have i1_1 : Lst kO x1_1 x1_1.heap.size (some ⟨wr.heap.size, 0, none⟩) 2 [⟨1, 5, 0, 0, 0, 0⟩, ⟨12, 0, 0, 1, 5, (s : Int)⟩] := lst_whole q1_1 rfl (fun x hx => by simp only [List.mem_cons, List.not_mem_nil, or_false] at hx; rcases hx with rfl | rfl; (· exact ⟨rfl, rfl, rfl, rfl, rfl, HFW.out⟩); (· exact ⟨rfl, rfl, rfl, rfl, rfl, HSW.out⟩)))
                  | (at_builtin; refine wpList_append_lst (w := x1_1) (k := kO) rfl _ _ 25 24 rfl Try.underlying25 _ 48 info_op rfl w.heap.size x1_1.heap.size wr.heap.size 0 2 2 (.slice A1 L c1) (opsS K zs bs i) [⟨1, 5, 0, 0, 0, 0⟩, ⟨12, 0, 0, 1, 5, (s : Int)⟩] rfl rfl o1_1 i1_1 (by rw [HL.out]; omega) (by omega) b1_1.size ?_; intro vv_1 x2_1 o2_1 g2_1 t2_1; rw [← HS.out] at o2_1; obtain ⟨A_1, L_1, c_1, rfl, HL_1, hc_1⟩ := o2_1.form2; have p2_1 := p1_1.grown g2_1 (Ne.symm hne); have b2_1 := b1_1.grown g2_1 b1_1.size (fun r e => (o1_1.lt r e).1); have ne_1 := o2_1.ne_blk p2_1 (by decide))
                  | (refine wpList_run (w := x2_1) rfl (v := .pointer (some ⟨w.heap.size, 1, none⟩)) (Held.y_field (S := fun _ => True) (k := 1) (s := 0) rfl rfl Try.underlying27 rfl (by kernel_rfl) rfl _ trivial) ?_)
                  | (refine wpList_store_field (w := x2_1) rfl 25 _ _ rfl w.heap.size 1 rfl 27 _ (.slice A_1 L_1 c_1) rfl p2_1 (by simp) (by kernel_rfl) rfl rfl ?_; intro v_1 q3_1 g3_1 z3_1; have o_1 := o2_1.kept g3_1 (.inr ne_1); have b_1 := b2_1.grown g3_1 b2_1.size (fun r e => by cases e; exact hlP); have q_1 : Blk v_1 w.heap.size 27 #[.int .i64 (K : Int), .slice A_1 L_1 c_1, .slice none 0 0, .slice none 0 0] := q3_1; have cell_1 := q_1.cell (i := 1) rfl; have w_1 : Blk v_1 w2.heap.size 36 (flat kR (wantS M K zs bs i)).toArray := ((qw.grown g1_1 (by simp)).grown g2_1 (fun e => hnw e.symm)).grown g3_1 (by simpa using hgPw); clear q1_1 p1_1 p2_1 g1_1 g2_1 g3_1 z1_1 z3_1 t2_1 o1_1 b1_1 b2_1 i1_1 o2_1)
                  | (refine wpList_run (w := v_1) rfl (v := .pointer (some ⟨w2.heap.size, s * 4, none⟩)) (Held.y_addr (S := fun _ => True) rfl rfl rfl haddr _ trivial) ?_)
                  | (refine wpList_build_blk rfl 36 #[_] rfl #[.bool true, .int .i64 0, .int .i64 0, .int .i64 0] (by kernel_rfl) ?_)
                  | (refine wpList_store_lstB (k := kR) (w := v_1) rfl 36 _ _ rfl size_rec w2.heap.size (s * 4) s 36 (wantS M K zs bs i) RD rfl rfl rfl w_1 hls ?_; intro v5 w5 g5))
                have b5 : Below w.heap.size w v5 := b_1.grown g5 b_1.size (fun r e => by cases e; exact hlw)
                have q6 : Blk v5 w.heap.size 27 #[.int .i64 (K : Int), .slice A_1 L_1 c_1, .slice none 0 0, .slice none 0 0] := (q_1.grown g5 (by simpa using hgPw.symm))
                have o6 := (o_1.kept g5 (.inr (o_1.ne_blk w_1 (by decide))))
                rw [← HWS.out] at w5
                go_roundw
                case rel => exact ⟨i + 1, L_1, c_1, A_1, by omega, by go_num, HL_1, q6, o6, w5, b5⟩
                case measure => simp [intOf]; omega
          · have hil : len = i := by omega
            subst hil
            have L5 := o.lst (HOW.out len hlen)
            clear HL
            have hlL : (opsS K zs bs len).length = L := L5.1
            go_wp2_with fail
            refine (awake11_any wr).mono ?_
            rintro e w4 ⟨rfl, b4⟩
            have q4 := q.after b4
            have qw4 := qw.after b4
            have L4 := (L5.below b4).more b4.size
            have b4 := b.trans (b4.mono b.size)
            clear q qw L5 b o
            go_wp2_with (first
              | (refine wpList_load_blk (w := w4) rfl 27 _ rfl w.heap.size 4 rfl 27 _ q4 _ Try.underlying27 rfl info_prog rfl ?_)
              | (refine wpList_run (w := w4) rfl (v := .agg #[.int .i64 7, .int .i64 (-8)]) (y_build (S := fun _ => True) rfl (by kernel_rfl) _ trivial) ?_))
            refine (map_any w4.heap.size (K : Int) _ _ _ _ _ _ _ _ _ _ [] [] n' 7 (-8) w4 hnw rfl rfl L4 (Lst.nil _ _ _ _) (Lst.nil _ _ _ _) (Nat.le_refl _)).mono ?_
            rintro e w7 ⟨A', n9, c', rfl, o7, b7⟩
            rw [HMAP.out] at o7
            have r7 := o7.recs HWW.out
            have hn9 : K = n9 := by rw [← r7.1, wantS_length]
            subst hn9
            have qw7 := qw4.after b7
            have rw7 : Recs w7 w7.heap.size (some ⟨w2.heap.size, 0, none⟩) K (wantS M K zs bs len) := by
              have := recs_of_blk (rs := wantS M K zs bs len) (qs := []) (by rw [List.append_nil]; exact qw7) HWW.out
              rwa [wantS_length] at this
            have b7 := b4.trans (b7.mono b4.size)
            clear o7 q4 L4 b4 qw4 qw7
            go_wp2_with fail
            refine (plain_any w7.heap.size w7.heap.size _ _ _ _ _ _ _ _ w7 r7 rw7 (Nat.le_refl _) (Nat.le_refl _) (by omega) (by omega)).mono ?_
            rintro e w8 ⟨rfl, b8⟩
            have b8 := b7.trans (b8.mono b7.size)
            rw [decide_eq_true rfl]
            clear r7 rw7 b7
            go_wp2_with fail
            go_ret
            exact ⟨rfl, b8⟩
  · have hlen' : (len : Int) > 20 := by omega
    go_enter Try.func4, Try.ntmps4
    go_wp2_with fail
    refine (awake11_any w).mono ?_
    rintro e w1 ⟨rfl, b1⟩
    go_wp2_with fail
    go_ret
    exact ⟨rfl, b1⟩
theorem walk (a0 : Int) (a1 : Option Addr) (len1 cap1 : Nat) (z1 : List Int) (A2 : Option Addr) (m2 c2 : Nat) (bs2 : List Bool) (a3 : Int) (w : World) (w0 : (Lit.int .i64 a0).wf = true) (w1 : IsRow .i64 w a1 len1 cap1 z1) (hb2 : Sl.Lst Vm.kB w w.heap.size A2 m2 bs2 ∧ m2 ≤ c2 ∧ c2 ≤ maxLen) (w3 : (Lit.int .i64 a3).wf = true) :
    Calls Try.prog 4 #[.int .i64 a0, .slice a1 len1 cap1, .slice A2 m2 c2, .int .i64 a3] w fun e w' => e = .returned (.bool true) ∧ Below w.heap.size w w' := by
  obtain ⟨hz, hl, hm⟩ := ints_of_row w1
  obtain ⟨KN, hKN, hKN4⟩ : ∃ KN : Nat, wrap64 ((IntKind.u64.wrap a0).tmod 4) = (KN : Int) ∧ KN < 4 := by
    have hu0 : 0 ≤ IntKind.u64.wrap a0 := by rw [IntKind.wrap_u64]; omega
    have h1 : 0 ≤ IntKind.u64.wrap a0 % 4 := Int.emod_nonneg _ (by omega)
    have h2 : IntKind.u64.wrap a0 % 4 < 4 := Int.emod_lt_of_pos _ (by omega)
    rw [Int.tmod_eq_emod_of_nonneg hu0]
    exact ⟨(IntKind.u64.wrap a0 % 4).toNat, by unfold wrap64; omega, by omega⟩
  exact start a0 a3 a1 A2 len1 cap1 m2 c2 _ bs2 w hz hb2.1 (Nat.le_trans hb2.2.1 hb2.2.2) KN (1 + KN) hKN hKN4 rfl
set_option maxRecDepth 100000 in
theorem lifted (os : Os) (started : os.Started) (H : Type) (enc : TypeId × Value → H) :
    ReturnsInHanded {} Try.checked os 4 .any (Rows.vmSlotsSpec.pre6 enc Try.prog Try.f4 Rows.vmSlotsRow.domain false) (Rows.vmSlotsSpec.post enc Try.prog Try.f4 false true false false) := by
  refine returnsInHanded_of_change (C := Try.checked) own started (by kernel_rfl) Try.func4
    (ChangeSpec.witness6 (enc := enc) (C := Try.checked) false ⟨#[], #[.int .i64 0, .slice none 0 0, .slice none 0 0, .int .i64 0], []⟩ 8 (by kernel_rfl) (by kernel_rfl) (by kernel_rfl) (by kernel_rfl)) ?_
  intro W base args ds gs before hval0 hW hcnd _
  have hval : ∀ (j : Nat) t v, Try.f4.params[j]? = some t → args[j]? = some v → Value.okWide Try.prog W .any base t v := hval0
  have hW' := hW
  obtain ⟨p, q, hA0, hV, rfl, hfz, hnd⟩ := hW
  have hA : DataW.TrodAll enc Try.prog W 0 (fun _ => true) true Try.f4.params.toList args.toList ds p := hA0
  rw [Try.params4] at hA hval
  obtain ⟨v0, vs0, d0, ds0, p0, q0, hargs, rfl, rfl, h0, r0⟩ := trodAll_cons hA
  obtain ⟨v1, vs1, d1, ds1, p1, q1, rfl, rfl, rfl, h1, r1⟩ := trodAll_cons r0
  obtain ⟨v2, vs2, d2, ds2, p2, q2, rfl, rfl, rfl, h2, r2⟩ := trodAll_cons r1
  obtain ⟨v3, vs3, d3, ds3, p3, q3, rfl, rfl, rfl, h3, r3⟩ := trodAll_cons r2
  obtain ⟨rfl, rfl, rfl⟩ := trodAll_nil r3
  obtain rfl : args = #[v0, v1, v2, v3] := by cases args; simp_all
  obtain ⟨rfl, rfl⟩ := trodVars_none hV
  obtain ⟨a0, rfl, rfl, rfl, w0⟩ := open_int Try.underlying3 (hval 0 3 v0 rfl rfl) h0
  obtain ⟨a1, len1, cap1, rfl⟩ := okWide_slice Try.underlying32 (hval 1 32 v1 rfl rfl)
  have k1 := h1
  have lt1 : ∀ x ∈ p1, x.block < W.heap.size := by obtain ⟨m, hm⟩ := k1; exact DataW.trod_lt m _ _ _ hm
  obtain ⟨z1, w1⟩ : ∃ zs, IsRow .i64 W a1 len1 cap1 zs := by
    obtain ⟨fuel, hf⟩ := h1
    rcases open_ints Try.underlying32 Try.underlying3 (by kernel_rfl) hf with ⟨hcs, _⟩ | ⟨x, l, c, zs, hcs, _, hl, hm, hz, _, hcell, hwz⟩
    · simp [Value.cells] at hcs
      obtain ⟨rfl, rfl, rfl⟩ := hcs
      exact ⟨[], .inl ⟨rfl, rfl, rfl, rfl⟩⟩
    · simp [Value.cells] at hcs
      obtain ⟨rfl, rfl, rfl⟩ := hcs
      exact ⟨zs, .inr ⟨_, rfl, hl, hm, by simpa using hz, hcell, hwz⟩⟩
  obtain ⟨A2, m2, c2, rfl⟩ := okWide_slice Try.underlying33 (hval 2 33 v2 rfl rfl)
  have kk2 := h2
  have lt2 : ∀ x ∈ p2, x.block < W.heap.size := by obtain ⟨m, hm⟩ := kk2; exact DataW.trod_lt m _ _ _ hm
  obtain ⟨bs2, hb2⟩ := Vm.open_lstT (k := Vm.kB) Try.underlying33 (by kernel_rfl) Vm.open_truth h2
  obtain ⟨a3, rfl, rfl, rfl, w3⟩ := open_int Try.underlying2 (hval 3 2 v3 rfl rfl) h3
  clear hA0 hval0
  refine (walk a0 a1 len1 cap1 z1 A2 m2 c2 bs2 a3 W w0 w1 hb2 w3).mono fun e W' ⟨he, bel⟩ => ?_
  subst he
  exact ⟨_, rfl, _, _, _, [], _, [], hW', trodAll_mk1 (shut_bool Try.underlying4 _), (trodAll_cons_mk (shut_int Try.underlying3 w0) (trodAll_cons_mk (Below.trod laidOut (by kernel_rfl) (of_decide_eq_true (by kernel_rfl)) k1 bel lt1) (trodAll_cons_mk (Below.trod laidOut (by kernel_rfl) (of_decide_eq_true (by kernel_rfl)) kk2 bel lt2) (trodAll_cons_mk (shut_int Try.underlying2 w3) trodAll_mk0)))), rfl, bel.frame _, fun h => by cases h⟩
theorem over : Rows.vmSlotsRow.holds Try.pinned (OpenSpec.ofChange Rows.vmSlotsSpec) :=
  OpenClaim.holds_of_wide 4 Try.f4 rfl rfl rfl rfl rfl rfl rfl ⟨rfl, rfl, rfl, rfl, rfl⟩ rfl rfl rfl rfl rfl (by kernel_rfl) Try.func4 (by kernel_rfl)
    (of_decide_eq_true (by kernel_rfl)) (by unfold Func.isWrapper; first | (rw [if_pos (by decide +kernel)]; kernel_rfl) | (rw [if_neg (by decide +kernel)]; exact ⟨rfl, rfl⟩))
    (fun os started H enc _ => lifted os started H enc)
theorem proved : Rows.VmSlotsSaid :=
  over
#print axioms proved
end Go.Proofs.Yteipkkakjgfchaa.vmSlots
