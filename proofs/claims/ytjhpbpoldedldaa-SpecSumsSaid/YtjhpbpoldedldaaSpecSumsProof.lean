/-
  The law SpecSums (the pairs, added up under each key): the program's answer is true.
-/
import Derived.Test.YtjhpbpoldedldaaRows
import Derived.WalkKit
import Derived.ProofKit
import Derived.OpenShut
import Derived.ShutString
import Derived.ChangeOld
import Derived.Below
import Derived.Test.YtjhpbpoldedldaaB8
namespace Go.Proofs.Ytjhpbpoldedldaa.specSums
open Go.ChangeShapes Go.WideShapes Go.ChangeAt Go.RowKit
open Go.ChangeMaps (open_string shut_string)
open Go.Shelf Go.Proofs.Ytjhpbpoldedldaa Mem Held Go.Proofs.Ytjhpbpoldedldaa.Range Rc Rs Sl Vm Sp
theorem own : ownKnob Try.prog.godebug = none := by kernel_rfl
theorem laidOut : laidOutB Try.prog = true := by kernel_rfl
attribute [local irreducible] wpList Calls
theorem zero_i (w : World) : (zeroValue 2).run Try.prog w = .ok (.int .i64 0) w := by kernel_rfl
theorem checkS {k : Nat} (h1 : 1 ≤ k) (h3 : k ≤ 3) : checkB (k : Int) (sumsM k) sumsF [] = true := by
  rcases (show k = 1 ∨ k = 2 ∨ k = 3 by omega) with rfl | rfl | rfl <;> decide +kernel
theorem right_of {n k : Nat} (h1 : 0 < n) (h20 : n ≤ 10) (hk1 : 1 ≤ k) (hk4 : k ≤ 3) : rightB (n : Int) (k : Int) 1 1 = true := by
  have e : ((n : Int) + 1 - 1) / 1 = n := by rw [Int.ediv_one]; omega
  unfold rightB
  rw [e]
  simp only [Bool.and_eq_true, decide_eq_true_eq]
  have hm : (k : Int) * n < 32 := by
    rcases (show k = 1 ∨ k = 2 ∨ k = 3 by omega) with rfl | rfl | rfl <;> omega
  refine ⟨⟨⟨⟨⟨?_, ?_⟩, ?_, ?_⟩, ?_, ?_⟩, ?_, ?_⟩, ?_⟩ <;> omega
theorem runP_sums {k : Nat} (h1 : 1 ≤ k) (h3 : k ≤ 3) (ps : List (Int × Int)) : runP (k : Int) (sumsM k) sumsF [] ps = sortP (foldP (foldV (k : Int) (sumsM k) sumsF []) (liveTo (k : Int) (sumsM k) sumsF [] ps ps.length)) := by
  have e : finP (k : Int) (sumsM k) sumsF [] = id := by
    funext p
    simp only [finP, finishV, if_pos (checkS h1 h3)]
    rfl
  rw [runP, e, List.map_id, live]
set_option maxRecDepth 100000 in
set_option maxHeartbeats 16000000 in
theorem start (a0 : Int) (A : Option Addr) (n c : Nat) (ps : List (Int × Int)) (w : World) (hp : Lst kP w w.heap.size A n ps) (KN k : Nat) (hKN : wrap64 ((IntKind.u64.wrap a0).tmod 3) = (KN : Int)) (hKN3 : KN < 3) (hk : 1 + KN = k) :
    Calls Try.prog 3 #[.int .i64 a0, .slice A n c] w fun e w' => e = .returned (.bool true) ∧ Below w.heap.size w w' := by
  have hk1 : 1 ≤ k := by omega
  have hk3 : k ≤ 3 := by omega
  have hkk : (1 : Int) + (KN : Int) = (k : Int) := by omega
  have HS := Lib.hid (fun i hi => sums_step hk1 hk3 [] (checkS hk1 hk3) ps i (show (Lit.int .i64 (ps.getD i (0, 0)).2).wf = true from (hp.wf_at hi).2))
  have HC := Lib.hid (checkS hk1 hk3)
  have HR := Lib.hid (runP_sums hk1 hk3 ps)
  have HND := Lib.hid (fun i => foldP_nodup (foldV (k : Int) (sumsM k) sumsF []) (liveTo (k : Int) (sumsM k) sumsF [] ps i))
  have HL := Lib.hid hp.1
  clear hk hKN3
  go_enter Try.func3, Try.ntmps3
  by_cases h0 : n = 0
  · subst h0
    go_wp2_with fail
    refine (awake12_any w).mono ?_
    rintro e u2 ⟨rfl, b2⟩
    go_wp2_with fail
    go_ret
    exact ⟨rfl, b2⟩
  by_cases h20 : 10 < n
  · have h0' : ¬ (n : Int) = 0 := by omega
    have h20' : (n : Int) > 10 := by omega
    clear h0 h20
    go_wp2_with fail
    refine (awake12_any w).mono ?_
    rintro e u2 ⟨rfl, b2⟩
    go_wp2_with fail
    go_ret
    exact ⟨rfl, b2⟩
  have hn0 : 0 < n := by omega
  have hn10 : n ≤ 10 := by omega
  have h0' : ¬ (n : Int) = 0 := by omega
  have h20' : ¬ (n : Int) > 10 := by omega
  have HB := Lib.hid (right_of hn0 hn10 hk1 hk3)
  clear h0 h20
  go_wp2_with fail
  refine (sums_any k (by omega) w).mono ?_
  rintro e u ⟨A1, n1, c1, A2, n2, c2, rfl, L1, L2, bu⟩
  have hpu := hp.below bu
  have hwu := bu.size
  go_wp2_with (refine wpList_run (w := u) rfl (v := .agg #[.int .i64 (n : Int), .int .i64 (k : Int), .int .i64 1, .int .i64 1]) (y_build (S := fun _ => True) (parts := #[_, _, _, _]) rfl (by kernel_rfl) _ trivial) ?_)
  refine (run_ok u.heap.size k 1 1 A1 A2 none A n1 c1 n2 c2 0 0 n c (sumsM k) sumsF [] ps u L1 L2 (Lst.nil _ _ _ _) (hpu.more hwu) (Nat.le_refl _) HC.out HB.out).mono ?_
  rintro e u5 ⟨Aa, na, ca, rfl, oa, b5⟩
  rw [HR.out, HL.out] at oa
  have hp5 := hpu.below (b5.mono hwu)
  have bw5 := bu.trans (b5.mono hwu)
  have HW := Lib.hid (show ∀ i, i ≤ n → ∀ x ∈ foldP (foldV (k : Int) (sumsM k) sumsF []) (liveTo (k : Int) (sumsM k) sumsF [] ps i), pwf x from fun i hi => foldP_wf (foldV_wf sumsF_wf) _ (fun r hr => live_wf (K := (k : Int)) (f := sumsF) (e := []) (sumsM_wf (by omega)) hp.2.1 (by rw [hp.1]; omega) r ((liveTo_prefix _ _ _ _ ps (by rw [hp.1]; exact hi)).subset hr)))
  have LA := oa.lst (fun x hx => HW.out n (Nat.le_refl _) x (sortP_mem.1 hx))
  clear L1 L2 hpu bu b5 oa HC HB HR hp
  go_wp2_with fail
  refine (awake12_any u5).mono ?_
  rintro e u6 ⟨rfl, b6⟩
  have LA6 := LA.below b6
  have hp6 := hp5.below (b6.mono bw5.size)
  have bw6 := bw5.trans (b6.mono bw5.size)
  have hs56 := b6.size
  have hs5 := bw5.size
  clear LA hp5 bw5 b6
  go_wp2_with (refine wpList_makeMap_mp (w := u6) rfl 34 2 rfl Try.underlying34 ?_; intro u7 m7 g7 z7)
  have b7 : Below u6.heap.size u6 u7 := (Below.refl _ u6).grown g7 (Nat.le_refl _) (by simp)
  have m7 : Mp Try.prog 2 u7 u6.heap.size 0 (foldP (foldV (k : Int) (sumsM k) sumsF []) (liveTo (k : Int) (sumsM k) sumsF [] ps 0)) := m7
  go_loopw [8] (fun t wr => ∃ i : Nat, i ≤ n ∧ t = .int .i64 i ∧ Mp Try.prog 2 wr u6.heap.size i (foldP (foldV (k : Int) (sumsM k) sumsF []) (liveTo (k : Int) (sumsM k) sumsF [] ps i)) ∧ Below u6.heap.size u6 wr) (fun t _ => n - (intOf t).toNat)
  case atStart => exact ⟨0, by omega, rfl, m7, b7⟩
  case round =>
    obtain ⟨i, hi, rfl, mi, bw⟩ := hrel
    by_cases hlt : i < n
    · obtain ⟨g, off, rfl, hg, hx⟩ := (hp6.below (bw.mono (by omega))).at_ hlt
      have hx : wr.rangeAt g (off + i * 2) [.int .i64 (ps.getD i (0, 0)).1, .int .i64 (ps.getD i (0, 0)).2] := hx
      have hpw : pwf (ps.getD i (0, 0)) := (hp6.below (bw.mono (by omega))).wf_at hlt
      have HS1 := Lib.hid (HS.out i hlt)
      obtain ⟨hkw, hvw⟩ := hpw
      generalize (ps.getD i (0, 0)).1 = key at hx HS1 hkw
      generalize (ps.getD i (0, 0)).2 = val at hx HS1 hvw
      have hck : wr.cell? ⟨g, off + i * 2, none⟩ = some (.int .i64 key) := hx 0 _ rfl
      have hcv : wr.cell? ⟨g, off + i * 2 + 1, none⟩ = some (.int .i64 val) := hx 1 _ rfl
      have hsw := bw.size
      have hgm : ¬ g = u6.heap.size := by omega
      have hlt' : (i : Int) < (n : Int) := by omega
      have hi0 : (0 : Int) ≤ (i : Int) := by omega
      generalize foldP (foldV (k : Int) (sumsM k) sumsF []) (liveTo (k : Int) (sumsM k) sumsF [] ps i) = M at mi HS1
      go_wp2_with fail
      refine wp_region_held (S := fun V => Only (fun b => b = u6.heap.size) wr V) (by kernel_rfl) ?_
      change wpAnyH _ _ _ _ _ _ _ _ wr.drew
      have c0_0 : Only (fun b => b = u6.heap.size) wr wr.drew := ⟨Nat.le_refl _, fun _ _ _ h _ => h⟩
      refine Held.tk (v := .map (some u6.heap.size)) 0 (some 50) rfl (Held.y_move rfl rfl) c0_0 ?_
      simp only [Act.put, Z1, Z2, Z3]
      refine Held.tk (v := .slice (some ⟨g, off, none⟩) n c) 1 (some 51) rfl (Held.y_move rfl rfl) c0_0 ?_
      simp only [Act.put, Z1, Z2, Z3]
      refine Held.tk (v := .int .i64 (i : Int)) 2 (some 52) rfl (Held.y_move rfl rfl) c0_0 ?_
      simp only [Act.put, Z1, Z2, Z3]
      refine Held.tk (v := .pointer (some ⟨g, off + i * 2, none⟩)) 3 (some 53) rfl (Held.y_addr rfl rfl rfl (run_addr_of (P := Try.prog) 22 36 g off n c i 2 .i64 Try.underlying22 size_pair hlt)) c0_0 ?_
      simp only [Act.put, Z1, Z2, Z3]
      refine Held.tk (v := .pointer (some ⟨g, off + i * 2, none⟩)) 4 (some 54) rfl (Held.y_field (k := 0) (s := 0) rfl rfl Try.underlying36 rfl (by kernel_rfl) rfl) c0_0 ?_
      simp only [Act.put, Z1, Z2, Z3]
      refine Held.tk (v := .int .i64 key) 5 (some 55) rfl (Held.y_load rfl rfl (by kernel_rfl) (fun W hW => hW.cell (by exact hgm) hck)) c0_0 ?_
      simp only [Act.put, Z1, Z2, Z3]
      refine Held.tk (v := .map (some u6.heap.size)) 6 (some 56) rfl (Held.y_move rfl rfl) c0_0 ?_
      simp only [Act.put, Z1, Z2, Z3]
      refine Held.tk (v := .slice (some ⟨g, off, none⟩) n c) 7 (some 57) rfl (Held.y_move rfl rfl) c0_0 ?_
      simp only [Act.put, Z1, Z2, Z3]
      refine Held.tk (v := .int .i64 (i : Int)) 8 (some 58) rfl (Held.y_move rfl rfl) c0_0 ?_
      simp only [Act.put, Z1, Z2, Z3]
      refine Held.tk (v := .pointer (some ⟨g, off + i * 2, none⟩)) 9 (some 59) rfl (Held.y_addr rfl rfl rfl (run_addr_of (P := Try.prog) 22 36 g off n c i 2 .i64 Try.underlying22 size_pair hlt)) c0_0 ?_
      simp only [Act.put, Z1, Z2, Z3]
      refine Held.tk (v := .pointer (some ⟨g, off + i * 2, none⟩)) 10 (some 60) rfl (Held.y_field (k := 0) (s := 0) rfl rfl Try.underlying36 rfl (by kernel_rfl) rfl) c0_0 ?_
      simp only [Act.put, Z1, Z2, Z3]
      refine Held.tk (v := .int .i64 key) 11 (some 61) rfl (Held.y_load rfl rfl (by kernel_rfl) (fun W hW => hW.cell (by exact hgm) hck)) c0_0 ?_
      simp only [Act.put, Z1, Z2, Z3]
      refine Held.tk (v := .int .i64 (k : Int)) 13 (some 63) rfl (Held.y_move rfl rfl) c0_0 ?_
      simp only [Act.put, Z1, Z2, Z3]
      refine Held.tk (v := .slice (some ⟨g, off, none⟩) n c) 14 (some 64) rfl (Held.y_move rfl rfl) c0_0 ?_
      simp only [Act.put, Z1, Z2, Z3]
      refine Held.tk (v := .int .i64 (i : Int)) 15 (some 65) rfl (Held.y_move rfl rfl) c0_0 ?_
      simp only [Act.put, Z1, Z2, Z3]
      refine Held.tk (v := .pointer (some ⟨g, off + i * 2, none⟩)) 16 (some 66) rfl (Held.y_addr rfl rfl rfl (run_addr_of (P := Try.prog) 22 36 g off n c i 2 .i64 Try.underlying22 size_pair hlt)) c0_0 ?_
      simp only [Act.put, Z1, Z2, Z3]
      refine Held.tk (v := .pointer (some ⟨g, off + i * 2 + 1, none⟩)) 17 (some 67) rfl (Held.y_field (k := 1) (s := 0) rfl rfl Try.underlying36 rfl (by kernel_rfl) rfl) c0_0 ?_
      simp only [Act.put, Z1, Z2, Z3]
      refine Held.tk (v := .int .i64 val) 18 (some 68) rfl (Held.y_load rfl rfl (by kernel_rfl) (fun W hW => hW.cell (by exact hgm) hcv)) c0_0 ?_
      simp only [Act.put, Z1, Z2, Z3]
      refine Held.tk (v := .int .i64 (wrap64 ((k : Int) * val))) 19 (some 69) rfl (Held.y_int rfl rfl rfl (Held.run_mul 2 .i64 (w64 _))) c0_0 ?_
      simp only [Act.put, Z1, Z2, Z3]
      refine Held.one 12 (by kernel_rfl) ?_
      refine op_look (K := 2) (T := 34) 12 (some 62) key rfl rfl rfl rfl rfl rfl hkw Try.underlying2 Try.underlying34 zero_i (show Mp Try.prog 2 wr.drew u6.heap.size i M from mi) ?_
      have c0_1 := c0_0
      refine ⟨c0_1, ?_⟩
      simp only [Act.put, Z1, Z2, Z3]
      refine Held.tk (v := .int .i64 (wrap64 (Sp.look M key + wrap64 ((k : Int) * val)))) 20 (some 70) rfl (Held.y_int rfl rfl rfl (Held.run_add 2 .i64 (w64 _))) c0_1 ?_
      simp only [Act.put, Z1, Z2, Z3]
      refine Held.one 21 (by kernel_rfl) ?_
      refine op_mapUpdate (K := 2) (T := 34) 21 none key (wrap64 (Sp.look M key + wrap64 ((k : Int) * val))) rfl rfl rfl rfl rfl rfl rfl hkw (wrap64_wf _) Try.underlying2 Try.underlying34 (show Mp Try.prog 2 wr.drew u6.heap.size i M from mi) (by omega) ?_
      intro w2 m2 g2
      have c0_2 := c0_1.trans (Only.of_grown g2 (fun r e => by cases e; rfl))
      refine ⟨c0_2, ?_⟩
      simp only [Act.put]
      refine wpAnyH_done (by kernel_rfl) ?_ _
      rw [← HS1.out] at m2
      have b2 := (bw.drew).grown g2 hsw (fun r e => by cases e; exact Nat.le_refl _)
      go_wp2_with fail
      go_roundw
      case rel => exact ⟨i + 1, by omega, by go_num, m2, b2⟩
      case measure => simp [intOf]; omega
    · have hin : i = n := by omega
      subst hin
      have LAw := LA6.below (bw.mono hs56)
      have hnd := HND.out i
      have hlen : (sortP (foldP (foldV (k : Int) (sumsM k) sumsF []) (liveTo (k : Int) (sumsM k) sumsF [] ps i))).length = na := LAw.1
      rw [sortP_length] at hlen
      have HLM := Lib.hid hlen
      have HRS := Lib.hid (fun (p q : Nat) (h1 : p < q) (h2 : q < (foldP (foldV (k : Int) (sumsM k) sumsF []) (liveTo (k : Int) (sumsM k) sumsF [] ps i)).length) => sortP_rises hnd h1 h2)
      have HLK := Lib.hid (fun (p : Nat) (h : p < (foldP (foldV (k : Int) (sumsM k) sumsF []) (liveTo (k : Int) (sumsM k) sumsF [] ps i)).length) => look_sorted hnd h)
      have HWM := Lib.hid (HW.out i (Nat.le_refl _))
      have hle40 : na ≤ 10000 := by
        rw [← hlen]
        have h1 := foldP_length (foldV (k : Int) (sumsM k) sumsF []) (liveTo (k : Int) (sumsM k) sumsF [] ps i)
        have h2 := live_length (k : Int) (sumsM k) sumsF [] ps
        rw [live, HL.out] at h2
        omega
      clear hp6 HS HND HW hlen hnd m7 b7 g7 z7 LA6
      generalize foldP (foldV (k : Int) (sumsM k) sumsF []) (liveTo (k : Int) (sumsM k) sumsF [] ps i) = M at *
      have bww := bw6.trans (bw.mono bw6.size)
      have hsw := bw.size
      have mlt := mi.lt
      go_wp2_with fail
      go_loopw [9] (fun t wx => ∃ j : Nat, j ≤ na ∧ t = .int .i64 j ∧ Below wr.heap.size wr wx) (fun t _ => na - (intOf t).toNat)
      case atStart => exact ⟨0, by omega, rfl, Below.refl _ _⟩
      case round =>
        obtain ⟨j, hj, rfl, bx⟩ := hrel
        by_cases hlt : j < na
        · have hlm : j < M.length := by rw [HLM.out]; exact hlt
          obtain ⟨g, off, rfl, hg, hx⟩ := (LAw.below (bx.mono (by omega))).at_ hlt
          have hx : wr.rangeAt g (off + j * 2) [.int .i64 ((sortP M).getD j (0, 0)).1, .int .i64 ((sortP M).getD j (0, 0)).2] := hx
          obtain ⟨hin, hlk⟩ := HLK.out j hlm
          have hwj : pwf ((sortP M).getD j (0, 0)) := HWM.out _ (sortP_mem.1 (by rw [List.getD_eq_getElem?_getD, List.getElem?_eq_getElem (by rw [sortP_length]; exact hlm)]; exact List.getElem_mem _))
          have HRJ := Lib.hid (fun q (hq : q < j) => HRS.out q j hq hlm)
          obtain ⟨hkw, hvw⟩ := hwj
          generalize ((sortP M).getD j (0, 0)).1 = key at hx hin hlk HRJ hkw
          generalize ((sortP M).getD j (0, 0)).2 = val at hx hlk hvw
          have hck : wr.cell? ⟨g, off + j * 2, none⟩ = some (.int .i64 key) := hx 0 _ rfl
          have hcv : wr.cell? ⟨g, off + j * 2 + 1, none⟩ = some (.int .i64 val) := hx 1 _ rfl
          have hsx := bx.size
          have hgx : g < wr.heap.size := by omega
          have hlt' : (j : Int) < (na : Int) := by omega
          have hj0 : (0 : Int) ≤ (j : Int) := by omega
          have HIN := Lib.hid hin
          have HLK2 := Lib.hid hlk
          have mx := mi.below bx
          clear hin hlk hlm
          by_cases hz : j = 0
          · have HG := Lib.hid (show decide ((0 : Int) < (j : Int)) = false by rw [hz]; rfl)
            clear hz
            go_wp2_with (first
              | (refine wpList_run (w := wr) rfl (v := .pointer (some ⟨g, off + j * 2, none⟩)) (Held.y_addr (S := fun _ => True) rfl rfl rfl (run_addr_of (P := Try.prog) 22 36 g off na ca j 2 .i64 Try.underlying22 size_pair hlt) _ trivial) ?_)
              | (refine wpList_run (w := wr) rfl (v := .pointer (some ⟨g, off + j * 2, none⟩)) (Held.y_field (S := fun _ => True) (k := 0) (s := 0) rfl rfl Try.underlying36 rfl (by kernel_rfl) rfl _ trivial) ?_)
              | (refine wpList_run (w := wr) rfl (v := .tuple #[.int .i64 val, .bool true]) (y_look_hit (S := fun W => W = wr) (K := 2) (T := 34) (b := u6.heap.size) (n := i) (M := M) (k := key) rfl rfl rfl hkw Try.underlying2 Try.underlying34 zero_i (fun W hW => by rw [hW]; exact mx) HIN.out HLK2.out _ rfl) ?_))
            refine wp_region_held (S := fun W => Below wr.heap.size wr W) (by kernel_rfl) ?_
            change wpAnyH _ _ _ _ _ _ _ _ wr.drew
            have c0_0 := (Below.refl wr.heap.size wr).drew
            refine Held.tk (v := .bool true) 0 (some 87) rfl (Held.y_move rfl rfl) c0_0 ?_
            simp only [Act.put, Z1, Z2, Z3]
            refine Held.tk (v := .bool false) 1 (some 88) rfl (Held.y_not rfl rfl rfl) c0_0 ?_
            simp only [Act.put, Z1, Z2, Z3]
            refine Held.tk (v := .bool false) 2 (some 89) rfl (Held.y_move rfl rfl) c0_0 ?_
            simp only [Act.put, Z1, Z2, Z3]
            refine Held.tk (v := .int .i64 val) 3 (some 90) rfl (Held.y_move rfl rfl) c0_0 ?_
            simp only [Act.put, Z1, Z2, Z3]
            refine Held.tk (v := .slice (some ⟨g, off, none⟩) na ca) 4 (some 91) rfl (Held.y_move rfl rfl) c0_0 ?_
            simp only [Act.put, Z1, Z2, Z3]
            refine Held.tk (v := .int .i64 (j : Int)) 5 (some 92) rfl (Held.y_move rfl rfl) c0_0 ?_
            simp only [Act.put, Z1, Z2, Z3]
            refine Held.tk (v := .pointer (some ⟨g, off + j * 2, none⟩)) 6 (some 93) rfl (Held.y_addr rfl rfl rfl (run_addr_of (P := Try.prog) 22 36 g off na ca j 2 .i64 Try.underlying22 size_pair hlt)) c0_0 ?_
            simp only [Act.put, Z1, Z2, Z3]
            refine Held.tk (v := .pointer (some ⟨g, off + j * 2 + 1, none⟩)) 7 (some 94) rfl (Held.y_field (k := 1) (s := 0) rfl rfl Try.underlying36 rfl (by kernel_rfl) rfl) c0_0 ?_
            simp only [Act.put, Z1, Z2, Z3]
            refine Held.tk (v := .int .i64 val) 8 (some 95) rfl (Held.y_load rfl rfl (by kernel_rfl) (fun W hW => (hW.cell (by exact hgx)).trans hcv)) c0_0 ?_
            simp only [Act.put, Z1, Z2, Z3]
            refine Held.tk (v := .bool false) 9 (some 96) rfl (Held.y_neI rfl rfl rfl (by simp)) c0_0 ?_
            simp only [Act.put, Z1, Z2, Z3]
            refine Held.tk (v := .bool false) 10 (some 97) rfl (Held.y_pickF rfl rfl rfl) c0_0 ?_
            simp only [Act.put, Z1, Z2, Z3]
            refine Held.tk (v := .bool false) 11 (some 98) rfl (Held.y_move rfl rfl) c0_0 ?_
            simp only [Act.put, Z1, Z2, Z3]
            refine Held.tk (v := .int .i64 (j : Int)) 12 (some 99) rfl (Held.y_move rfl rfl) c0_0 ?_
            simp only [Act.put, Z1, Z2, Z3]
            refine Held.tk (v := .bool false) 13 (some 100) rfl (Held.y_gtr rfl rfl rfl HG.out) c0_0 ?_
            simp only [Act.put, Z1, Z2, Z3]
            refine Held.tk (v := .bool false) 14 (some 101) rfl (Held.y_move rfl rfl) c0_0 ?_
            simp only [Act.put, Z1, Z2, Z3]
            refine Held.skip 15 (some 102) rfl rfl (by kernel_rfl) (by kernel_rfl) (by kernel_rfl) (fun _ _ _ h => h) rfl c0_0 ?_
            simp only [Act.put, Z1, Z2, Z3]
            refine Held.skip 16 (some 103) rfl rfl (by kernel_rfl) (by kernel_rfl) (by kernel_rfl) (fun _ _ _ h => h) rfl c0_0 ?_
            simp only [Act.put, Z1, Z2, Z3]
            refine Held.skip 17 (some 104) rfl rfl (by kernel_rfl) (by kernel_rfl) (by kernel_rfl) (fun _ _ _ h => h) rfl c0_0 ?_
            simp only [Act.put, Z1, Z2, Z3]
            refine Held.skip 18 (some 105) rfl rfl (by kernel_rfl) (by kernel_rfl) (by kernel_rfl) (fun _ _ _ h => h) rfl c0_0 ?_
            simp only [Act.put, Z1, Z2, Z3]
            refine Held.skip 19 (some 106) rfl rfl (by kernel_rfl) (by kernel_rfl) (by kernel_rfl) (fun _ _ _ h => h) rfl c0_0 ?_
            simp only [Act.put, Z1, Z2, Z3]
            refine Held.skip 20 (some 107) rfl rfl (by kernel_rfl) (by kernel_rfl) (by kernel_rfl) (fun _ _ _ h => h) rfl c0_0 ?_
            simp only [Act.put, Z1, Z2, Z3]
            refine Held.skip 21 (some 108) rfl rfl (by kernel_rfl) (by kernel_rfl) (by kernel_rfl) (fun _ _ _ h => h) rfl c0_0 ?_
            simp only [Act.put, Z1, Z2, Z3]
            refine Held.skip 22 (some 109) rfl rfl (by kernel_rfl) (by kernel_rfl) (by kernel_rfl) (fun _ _ _ h => h) rfl c0_0 ?_
            simp only [Act.put, Z1, Z2, Z3]
            refine Held.skip 23 (some 110) rfl rfl (by kernel_rfl) (by kernel_rfl) (by kernel_rfl) (fun _ _ _ h => h) rfl c0_0 ?_
            simp only [Act.put, Z1, Z2, Z3]
            refine Held.skip 24 (some 111) rfl rfl (by kernel_rfl) (by kernel_rfl) (by kernel_rfl) (fun _ _ _ h => h) rfl c0_0 ?_
            simp only [Act.put, Z1, Z2, Z3]
            refine Held.skip 25 (some 112) rfl rfl (by kernel_rfl) (by kernel_rfl) (by kernel_rfl) (fun _ _ _ h => h) rfl c0_0 ?_
            simp only [Act.put, Z1, Z2, Z3]
            refine Held.skip 26 (some 113) rfl rfl (by kernel_rfl) (by kernel_rfl) (by kernel_rfl) (fun _ _ _ h => h) rfl c0_0 ?_
            simp only [Act.put, Z1, Z2, Z3]
            refine Held.tk (v := (.bool false)) 27 (some 114) rfl (Held.y_pickF rfl rfl rfl) c0_0 ?_
            simp only [Act.put, Z1, Z2, Z3]
            refine Held.tk (v := (.bool false)) 28 (some 115) rfl (Held.y_pickF rfl rfl rfl) c0_0 ?_
            simp only [Act.put, Z1, Z2, Z3]
            refine wpAnyH_done (by kernel_rfl) ?_ _
            go_wp2_with fail
            go_roundw
            case rel => exact ⟨j + 1, by omega, by go_num, bx.drew⟩
            case measure => simp [intOf]; omega
          · obtain ⟨q, hq⟩ : ∃ q, j = q + 1 := ⟨j - 1, by omega⟩
            have HG := Lib.hid (show decide ((0 : Int) < (j : Int)) = true by rw [decide_eq_true_eq]; omega)
            have HQ := Lib.hid (show IntKind.i64.wrap ((j : Int) - 1) = (q : Int) by rw [IntKind.wrap_i64]; omega)
            have hltq : q < na := by omega
            obtain ⟨g2, off2, e1, _, hx2⟩ := (LAw.below (bx.mono (by omega))).at_ hltq
            injection e1 with e1
            injection e1 with e1 e2 e3
            subst e1
            subst e2
            have hx2 : wr.rangeAt g (off + q * 2) [.int .i64 ((sortP M).getD q (0, 0)).1, .int .i64 ((sortP M).getD q (0, 0)).2] := hx2
            have hrq := HRJ.out q (by omega)
            generalize ((sortP M).getD q (0, 0)).1 = keyq at hx2 hrq
            generalize ((sortP M).getD q (0, 0)).2 = valq at hx2
            have hcq : wr.cell? ⟨g, off + q * 2, none⟩ = some (.int .i64 keyq) := hx2 0 _ rfl
            have HLE := Lib.hid (show decide (key ≤ keyq) = false by rw [decide_eq_false_iff_not]; omega)
            clear hz hq hrq hx2
            go_wp2_with (first
              | (refine wpList_run (w := wr) rfl (v := .pointer (some ⟨g, off + j * 2, none⟩)) (Held.y_addr (S := fun _ => True) rfl rfl rfl (run_addr_of (P := Try.prog) 22 36 g off na ca j 2 .i64 Try.underlying22 size_pair hlt) _ trivial) ?_)
              | (refine wpList_run (w := wr) rfl (v := .pointer (some ⟨g, off + j * 2, none⟩)) (Held.y_field (S := fun _ => True) (k := 0) (s := 0) rfl rfl Try.underlying36 rfl (by kernel_rfl) rfl _ trivial) ?_)
              | (refine wpList_run (w := wr) rfl (v := .tuple #[.int .i64 val, .bool true]) (y_look_hit (S := fun W => W = wr) (K := 2) (T := 34) (b := u6.heap.size) (n := i) (M := M) (k := key) rfl rfl rfl hkw Try.underlying2 Try.underlying34 zero_i (fun W hW => by rw [hW]; exact mx) HIN.out HLK2.out _ rfl) ?_))
            refine wp_region_held (S := fun W => Below wr.heap.size wr W) (by kernel_rfl) ?_
            change wpAnyH _ _ _ _ _ _ _ _ wr.drew
            have c0_0 := (Below.refl wr.heap.size wr).drew
            refine Held.tk (v := .bool true) 0 (some 87) rfl (Held.y_move rfl rfl) c0_0 ?_
            simp only [Act.put, Z1, Z2, Z3]
            refine Held.tk (v := .bool false) 1 (some 88) rfl (Held.y_not rfl rfl rfl) c0_0 ?_
            simp only [Act.put, Z1, Z2, Z3]
            refine Held.tk (v := .bool false) 2 (some 89) rfl (Held.y_move rfl rfl) c0_0 ?_
            simp only [Act.put, Z1, Z2, Z3]
            refine Held.tk (v := .int .i64 val) 3 (some 90) rfl (Held.y_move rfl rfl) c0_0 ?_
            simp only [Act.put, Z1, Z2, Z3]
            refine Held.tk (v := .slice (some ⟨g, off, none⟩) na ca) 4 (some 91) rfl (Held.y_move rfl rfl) c0_0 ?_
            simp only [Act.put, Z1, Z2, Z3]
            refine Held.tk (v := .int .i64 (j : Int)) 5 (some 92) rfl (Held.y_move rfl rfl) c0_0 ?_
            simp only [Act.put, Z1, Z2, Z3]
            refine Held.tk (v := .pointer (some ⟨g, off + j * 2, none⟩)) 6 (some 93) rfl (Held.y_addr rfl rfl rfl (run_addr_of (P := Try.prog) 22 36 g off na ca j 2 .i64 Try.underlying22 size_pair hlt)) c0_0 ?_
            simp only [Act.put, Z1, Z2, Z3]
            refine Held.tk (v := .pointer (some ⟨g, off + j * 2 + 1, none⟩)) 7 (some 94) rfl (Held.y_field (k := 1) (s := 0) rfl rfl Try.underlying36 rfl (by kernel_rfl) rfl) c0_0 ?_
            simp only [Act.put, Z1, Z2, Z3]
            refine Held.tk (v := .int .i64 val) 8 (some 95) rfl (Held.y_load rfl rfl (by kernel_rfl) (fun W hW => (hW.cell (by exact hgx)).trans hcv)) c0_0 ?_
            simp only [Act.put, Z1, Z2, Z3]
            refine Held.tk (v := .bool false) 9 (some 96) rfl (Held.y_neI rfl rfl rfl (by simp)) c0_0 ?_
            simp only [Act.put, Z1, Z2, Z3]
            refine Held.tk (v := .bool false) 10 (some 97) rfl (Held.y_pickF rfl rfl rfl) c0_0 ?_
            simp only [Act.put, Z1, Z2, Z3]
            refine Held.tk (v := .bool false) 11 (some 98) rfl (Held.y_move rfl rfl) c0_0 ?_
            simp only [Act.put, Z1, Z2, Z3]
            refine Held.tk (v := .int .i64 (j : Int)) 12 (some 99) rfl (Held.y_move rfl rfl) c0_0 ?_
            simp only [Act.put, Z1, Z2, Z3]
            refine Held.tk (v := .bool true) 13 (some 100) rfl (Held.y_gtr rfl rfl rfl HG.out) c0_0 ?_
            simp only [Act.put, Z1, Z2, Z3]
            refine Held.tk (v := .bool true) 14 (some 101) rfl (Held.y_move rfl rfl) c0_0 ?_
            simp only [Act.put, Z1, Z2, Z3]
            refine Held.tk (v := .slice (some ⟨g, off, none⟩) na ca) 15 (some 102) rfl (Held.y_move rfl rfl) c0_0 ?_
            simp only [Act.put, Z1, Z2, Z3]
            refine Held.tk (v := .int .i64 (j : Int)) 16 (some 103) rfl (Held.y_move rfl rfl) c0_0 ?_
            simp only [Act.put, Z1, Z2, Z3]
            refine Held.tk (v := .pointer (some ⟨g, off + j * 2, none⟩)) 17 (some 104) rfl (Held.y_addr rfl rfl rfl (run_addr_of (P := Try.prog) 22 36 g off na ca j 2 .i64 Try.underlying22 size_pair hlt)) c0_0 ?_
            simp only [Act.put, Z1, Z2, Z3]
            refine Held.tk (v := .pointer (some ⟨g, off + j * 2, none⟩)) 18 (some 105) rfl (Held.y_field (k := 0) (s := 0) rfl rfl Try.underlying36 rfl (by kernel_rfl) rfl) c0_0 ?_
            simp only [Act.put, Z1, Z2, Z3]
            refine Held.tk (v := .int .i64 key) 19 (some 106) rfl (Held.y_load rfl rfl (by kernel_rfl) (fun W hW => (hW.cell (by exact hgx)).trans hck)) c0_0 ?_
            simp only [Act.put, Z1, Z2, Z3]
            refine Held.tk (v := .slice (some ⟨g, off, none⟩) na ca) 20 (some 107) rfl (Held.y_move rfl rfl) c0_0 ?_
            simp only [Act.put, Z1, Z2, Z3]
            refine Held.tk (v := .int .i64 (j : Int)) 21 (some 108) rfl (Held.y_move rfl rfl) c0_0 ?_
            simp only [Act.put, Z1, Z2, Z3]
            refine Held.tk (v := .int .i64 (q : Int)) 22 (some 109) rfl (Held.y_int rfl rfl rfl (Held.run_sub 3 .i64 HQ.out)) c0_0 ?_
            simp only [Act.put, Z1, Z2, Z3]
            refine Held.tk (v := .pointer (some ⟨g, off + q * 2, none⟩)) 23 (some 110) rfl (Held.y_addr rfl rfl rfl (run_addr_of (P := Try.prog) 22 36 g off na ca q 2 .i64 Try.underlying22 size_pair hltq)) c0_0 ?_
            simp only [Act.put, Z1, Z2, Z3]
            refine Held.tk (v := .pointer (some ⟨g, off + q * 2, none⟩)) 24 (some 111) rfl (Held.y_field (k := 0) (s := 0) rfl rfl Try.underlying36 rfl (by kernel_rfl) rfl) c0_0 ?_
            simp only [Act.put, Z1, Z2, Z3]
            refine Held.tk (v := .int .i64 keyq) 25 (some 112) rfl (Held.y_load rfl rfl (by kernel_rfl) (fun W hW => (hW.cell (by exact hgx)).trans hcq)) c0_0 ?_
            simp only [Act.put, Z1, Z2, Z3]
            refine Held.tk (v := .bool false) 26 (some 113) rfl (y_leq rfl rfl rfl HLE.out) c0_0 ?_
            simp only [Act.put, Z1, Z2, Z3]
            refine Held.tk (v := .bool false) 27 (some 114) rfl (Held.y_pick rfl rfl rfl) c0_0 ?_
            simp only [Act.put, Z1, Z2, Z3]
            refine Held.tk (v := .bool false) 28 (some 115) rfl (Held.y_pickF rfl rfl rfl) c0_0 ?_
            simp only [Act.put, Z1, Z2, Z3]
            refine wpAnyH_done (by kernel_rfl) ?_ _
            go_wp2_with fail
            go_roundw
            case rel => exact ⟨j + 1, by omega, by go_num, bx.drew⟩
            case measure => simp [intOf]; omega
        · have hjn : j = na := by omega
          subst hjn
          have mx := mi.below bx
          have bz := bww.trans (bx.mono bww.size)
          have hml : (M.length : Int) = (j : Int) := by rw [HLM.out]
          go_wp2_with (refine wpList_run (w := wr) rfl (v := .int .i64 (M.length : Int)) (y_lenm (S := fun W => W = wr) (K := 2) (T := 34) (b := u6.heap.size) (n := i) (M := M) rfl rfl Try.underlying34 (fun W hW => by rw [hW]; exact mx) _ rfl) ?_)
          go_ret
          exact ⟨rfl, bz⟩
theorem walk (a0 : Int) (A1 : Option Addr) (m1 c1 : Nat) (ps1 : List (Int × Int)) (w : World) (w0 : (Lit.int .i64 a0).wf = true) (hp1 : Sl.Lst Sp.kP w w.heap.size A1 m1 ps1 ∧ m1 ≤ c1 ∧ c1 ≤ maxLen) :
    Calls Try.prog 3 #[.int .i64 a0, .slice A1 m1 c1] w fun e w' => e = .returned (.bool true) ∧ Below w.heap.size w w' := by
  obtain ⟨KN, hKN, hKN3⟩ : ∃ KN : Nat, wrap64 ((IntKind.u64.wrap a0).tmod 3) = (KN : Int) ∧ KN < 3 := by
    have hu0 : 0 ≤ IntKind.u64.wrap a0 := by rw [IntKind.wrap_u64]; omega
    have h1 : 0 ≤ IntKind.u64.wrap a0 % 3 := Int.emod_nonneg _ (by omega)
    have h2 : IntKind.u64.wrap a0 % 3 < 3 := Int.emod_lt_of_pos _ (by omega)
    rw [Int.tmod_eq_emod_of_nonneg hu0]
    exact ⟨(IntKind.u64.wrap a0 % 3).toNat, by unfold wrap64; omega, by omega⟩
  exact start a0 A1 m1 c1 ps1 w hp1.1 KN (1 + KN) hKN hKN3 rfl
set_option maxRecDepth 100000 in
theorem lifted (os : Os) (started : os.Started) (H : Type) (enc : TypeId × Value → H) :
    ReturnsInHanded {} Try.checked os 3 .any (Rows.specSumsSpec.pre6 enc Try.prog Try.f3 Rows.specSumsRow.domain false) (Rows.specSumsSpec.post enc Try.prog Try.f3 false true false false) := by
  refine returnsInHanded_of_change (C := Try.checked) own started (by kernel_rfl) Try.func3
    (ChangeSpec.witness6 (enc := enc) (C := Try.checked) false ⟨#[], #[.int .i64 0, .slice none 0 0], []⟩ 8 (by kernel_rfl) (by kernel_rfl) (by kernel_rfl) (by kernel_rfl)) ?_
  intro W base args ds gs before hval0 hW hcnd _
  have hval : ∀ (j : Nat) t v, Try.f3.params[j]? = some t → args[j]? = some v → Value.okWide Try.prog W .any base t v := hval0
  have hW' := hW
  obtain ⟨p, q, hA0, hV, rfl, hfz, hnd⟩ := hW
  have hA : DataW.TrodAll enc Try.prog W 0 (fun _ => true) true Try.f3.params.toList args.toList ds p := hA0
  rw [Try.params3] at hA hval
  obtain ⟨v0, vs0, d0, ds0, p0, q0, hargs, rfl, rfl, h0, r0⟩ := trodAll_cons hA
  obtain ⟨v1, vs1, d1, ds1, p1, q1, rfl, rfl, rfl, h1, r1⟩ := trodAll_cons r0
  obtain ⟨rfl, rfl, rfl⟩ := trodAll_nil r1
  obtain rfl : args = #[v0, v1] := by cases args; simp_all
  obtain ⟨rfl, rfl⟩ := trodVars_none hV
  obtain ⟨a0, rfl, rfl, rfl, w0⟩ := open_int Try.underlying3 (hval 0 3 v0 rfl rfl) h0
  obtain ⟨A1, m1, c1, rfl⟩ := okWide_slice Try.underlying22 (hval 1 22 v1 rfl rfl)
  have kk1 := h1
  have lt1 : ∀ x ∈ p1, x.block < W.heap.size := by obtain ⟨m, hm⟩ := kk1; exact DataW.trod_lt m _ _ _ hm
  obtain ⟨ps1, hp1⟩ := Vm.open_lstT (k := Sp.kP) Try.underlying22 (by kernel_rfl) Sp.open_pair1 h1
  clear hA0 hval0
  refine (walk a0 A1 m1 c1 ps1 W w0 hp1).mono fun e W' ⟨he, bel⟩ => ?_
  subst he
  exact ⟨_, rfl, _, _, _, [], _, [], hW', trodAll_mk1 (shut_bool Try.underlying4 _), (trodAll_cons_mk (shut_int Try.underlying3 w0) (trodAll_cons_mk (Below.trod laidOut (by kernel_rfl) (of_decide_eq_true (by kernel_rfl)) kk1 bel lt1) trodAll_mk0)), rfl, bel.frame _, fun h => by cases h⟩
theorem over : Rows.specSumsRow.holds Try.pinned (OpenSpec.ofChange Rows.specSumsSpec) :=
  OpenClaim.holds_of_wide 3 Try.f3 rfl rfl rfl rfl rfl rfl rfl ⟨rfl, rfl, rfl, rfl, rfl⟩ rfl rfl rfl rfl rfl (by kernel_rfl) Try.func3 (by kernel_rfl)
    (of_decide_eq_true (by kernel_rfl)) (by unfold Func.isWrapper; first | (rw [if_pos (by decide +kernel)]; kernel_rfl) | (rw [if_neg (by decide +kernel)]; exact ⟨rfl, rfl⟩))
    (fun os started H enc _ => lifted os started H enc)
theorem proved : Rows.SpecSumsSaid :=
  over
#print axioms proved
end Go.Proofs.Ytjhpbpoldedldaa.specSums
