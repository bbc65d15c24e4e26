/-
  The document's store: Roll, by its contract.
  Does a store show what the document's does (shows)? If the one says what the other says: yes.
-/
import Derived.Test.YtbippmbcgkicaaaB12
import Derived.Test.YtbippmbcgkicaaaB13
import Derived.Test.YtbippmbcgkicaaaB9
set_option linter.unusedVariables false
namespace Go.Proofs.Ytbippmbcgkicaaa.Sto
open Go.RowKit Go.Shelf Go.Proofs.Ytbippmbcgkicaaa Mem Held Sl Go.Proofs.Ytbippmbcgkicaaa.Range
attribute [local irreducible] wpList wpListIn Calls
def RollPost (ow : Nat → Nat) (w : World) (r N : Nat) (l : List Cr) (O : List Ol) (q : Int) (e : Ending) (w' : World) : Prop :=
  (e = .returned (.bool false) ∧ (q < 0 ∨ (O.length : Int) < q) ∧ ∃ ow', Ref ow' w' r N l O ∧ Chg ow ow' w w') ∨
  (e = .returned (.bool true) ∧ q = 0 ∧ ∃ ow', Ref ow' w' r N l O ∧ Chg ow ow' w w') ∨
  (e = .returned (.bool true) ∧ ∃ (j : Nat) (o : Ol), q = (O.length : Int) - (j : Int) ∧ 0 < q ∧ O[j]? = some o ∧ ∃ ow', Ref ow' w' r N (rolR o.l l) O ∧ Chg ow ow' w w')
section
variable {ow : Nat → Nat} {w : World} {r N : Nat} {l : List Cr} {O : List Ol}
set_option maxRecDepth 100000 in
set_option maxHeartbeats 32000000 in
theorem rroll_any (H : Ref ow w r N l O) (hN : N ≤ 400000) (q : Int) : Calls Try.prog 16 #[.pointer (some ⟨r, 0, none⟩), .int .i64 q] w fun e w' => RollPost ow w r N l O q e w' := by
  obtain ⟨A, n, c, A', n', c', hb, HF, HO, hlb⟩ := H.blk
  have hrl := hb.lt
  have hc0 := hb.cell (i := 0) rfl
  have hc1 := hb.cell (i := 1) rfl
  have hol : n' = O.length := by obtain ⟨A9, c9, e9, _⟩ := OwnL.form HO; injection e9
  have hofew := H.few
  by_cases hq0 : q < 0
  · clear hofew
    go_enter Try.func16, Try.ntmps16
    go_wp2_with fail
    go_ret
    exact .inl ⟨rfl, .inl hq0, ow, H, Chg.refl ow w⟩
  by_cases hq1 : (n' : Int) < q
  · have hq2 : (O.length : Int) < q := by omega
    have HQ := Lib.hid hq2
    clear hq2 hofew hol
    go_enter Try.func16, Try.ntmps16
    go_wp2_with fail
    go_ret
    exact .inl ⟨rfl, .inr HQ.out, ow, H, Chg.refl ow w⟩
  by_cases hq2 : q = 0
  · subst hq2
    clear hofew hol
    go_enter Try.func16, Try.ntmps16
    go_wp2_with fail
    go_ret
    exact .inr (.inl ⟨rfl, rfl, ow, H, Chg.refl ow w⟩)
  · obtain ⟨j, hj⟩ : ∃ j : Nat, (n' : Int) - q = (j : Int) := ⟨((n' : Int) - q).toNat, by omega⟩
    obtain ⟨⟨Ao, no, co, lo⟩, ho⟩ : ∃ o, O[j]? = some o := ⟨_, List.getElem?_eq_getElem (by omega)⟩
    obtain ⟨gO, e9, hO9⟩ := own_some HO (by have := (List.getElem?_eq_some_iff.1 ho).1; omega)
    subst e9
    have hcell : w.cell? ⟨gO, 0 + j * 1, none⟩ = some (.slice Ao no co) := by
      have h9 := own_range HO (i := j) (by have := (List.getElem?_eq_some_iff.1 ho).1; omega)
      rw [List.getD_eq_getElem?_getD, ho] at h9
      exact h9 0 _ rfl
    have hgO : gO < w.heap.size := (OwnL.lt HO gO rfl).2
    have hjn : j < n' := by omega
    have HJ := Lib.hid (show IntKind.i64.wrap ((n' : Int) - q) = ((j : Nat) : Int) by rw [hj, IntKind.wrap_i64]; omega)
    have HQ := Lib.hid (show q = (O.length : Int) - (j : Int) by omega)
    have HQ0 := Lib.hid (show 0 < q by omega)
    have hq2I : ¬ q = 0 := hq2
    have HOJ := Lib.hid ho
    have HFO := Lib.hid (H.old ⟨Ao, no, co, lo⟩ (List.mem_of_getElem? ho))
    have HFR := Lib.hid HF
    have HLN := Lib.hid (Nat.le_trans HF.few hN)
    have HLE := Lib.hid HF.len
    have HREL := Lib.hid (fun (w' : World) (A1 : Option Addr) (n1 c1 : Nat) => H.relist (w' := w') (A := A1) (n := n1) (c := c1) (l' := rolR lo l) (N' := N) hb)
    have HOW := Lib.hid H.own
    have HLST := Lib.hid (OwnL.lst HF.own (fun _ _ => trivial))
    clear HF HO hlb hol hofew ho hj hO9 hq2
    go_enter Try.func16, Try.ntmps16
    go_wp2_with fail
    refine wp_region_held (S := fun W => Below w.heap.size w W) (by kernel_rfl) ?_
    change wpAnyH _ _ _ _ _ _ _ _ w.drew
    have c0_0 := (Below.refl w.heap.size w).drew
    refine Held.tk (v := .pointer (some ⟨r, 0, none⟩)) 0 (some 22) rfl (Held.y_move rfl rfl) c0_0 ?_
    simp only [Act.put, Z1, Z2, Z3]
    refine Held.tk (v := .pointer (some ⟨r, 0, none⟩)) 1 (some 23) rfl (Sl.y_nil rfl rfl) c0_0 ?_
    simp only [Act.put, Z1, Z2, Z3]
    refine Held.tk (v := .pointer (some ⟨r, 1, none⟩)) 2 (some 24) rfl (Held.y_field (k := 1) (s := 0) rfl rfl Try.underlying29 rfl (by kernel_rfl) rfl) c0_0 ?_
    simp only [Act.put, Z1, Z2, Z3]
    refine Held.tk (v := .slice (some ⟨gO, 0, none⟩) n' c') 3 (some 25) rfl (Held.y_load rfl rfl (by kernel_rfl) (fun W hW => (hb.below hW hrl).cell rfl)) c0_0 ?_
    simp only [Act.put, Z1, Z2, Z3]
    refine Held.tk (v := .pointer (some ⟨r, 0, none⟩)) 4 (some 26) rfl (Held.y_move rfl rfl) c0_0 ?_
    simp only [Act.put, Z1, Z2, Z3]
    refine Held.tk (v := .pointer (some ⟨r, 0, none⟩)) 5 (some 27) rfl (Sl.y_nil rfl rfl) c0_0 ?_
    simp only [Act.put, Z1, Z2, Z3]
    refine Held.tk (v := .pointer (some ⟨r, 1, none⟩)) 6 (some 28) rfl (Held.y_field (k := 1) (s := 0) rfl rfl Try.underlying29 rfl (by kernel_rfl) rfl) c0_0 ?_
    simp only [Act.put, Z1, Z2, Z3]
    refine Held.tk (v := .slice (some ⟨gO, 0, none⟩) n' c') 7 (some 29) rfl (Held.y_load rfl rfl (by kernel_rfl) (fun W hW => (hb.below hW hrl).cell rfl)) c0_0 ?_
    simp only [Act.put, Z1, Z2, Z3]
    refine Held.tk (v := .int .i64 (n' : Int)) 8 (some 30) rfl (Held.y_len rfl rfl Try.underlying27) c0_0 ?_
    simp only [Act.put, Z1, Z2, Z3]
    refine Held.tk (v := .int .i64 (q : Int)) 9 (some 31) rfl (Held.y_move rfl rfl) c0_0 ?_
    simp only [Act.put, Z1, Z2, Z3]
    refine Held.tk (v := .int .i64 (((j : Nat) : Int))) 10 (some 32) rfl (Held.y_int rfl rfl rfl (Held.run_sub 3 .i64 (HJ.out))) c0_0 ?_
    simp only [Act.put, Z1, Z2, Z3]
    refine Held.tk (v := .pointer (some ⟨gO, 0 + j * 1, none⟩)) 11 (some 33) rfl (Held.y_addr rfl rfl rfl (fun W => Rs.run_addr_of (P := Try.prog) 27 26 gO 0 n' c' j 1 .i64 Try.underlying27 (by kernel_rfl) hjn W)) c0_0 ?_
    simp only [Act.put, Z1, Z2, Z3]
    refine Held.tk (v := .slice Ao no co) 12 (some 34) rfl (Held.y_load rfl rfl (by kernel_rfl) (fun W hW => (hW.cell (p := ⟨gO, 0 + j * 1, none⟩) hgO).trans hcell)) c0_0 ?_
    simp only [Act.put, Z1, Z2, Z3]
    refine Held.tk (v := .slice Ao no co) 13 (some 5) rfl (Held.y_assign rfl rfl) c0_0 ?_
    simp only [Act.put, Z1, Z2, Z3]
    refine wpAnyH_done (by kernel_rfl) ?_ _
    have w1e : w.drew.heap.size = w.heap.size := rfl
    have HC0 := Lib.hid (hb.below c0_0 hrl)
    obtain ⟨u1, hu1⟩ : ∃ u1, w.drew = u1 := ⟨_, rfl⟩
    rw [hu1] at c0_0 HC0 ⊢
    have hcu := HC0.out.cell (i := 0) rfl
    clear hu1 w1e hcell hc0 hc1
    go_wp2_with (refine wpList_append_lst0 (k := kC) (w := u1) rfl _ _ 26 77 rfl Try.underlying26 _ 72 info_kC rfl w.heap.size w.heap.size n c A (.slice none 0 0) [] l rfl rfl (OwnL.nil _ _ _ _) (Lst.below HLST.out c0_0) (by have := HLN.out; have := HLE.out; simp; omega) (by omega) c0_0.size ?_; intro v2 u2 o2 g2 n2; have o2 : OwnL kC 77 u2 w.heap.size v2 l := o2; obtain ⟨A2, m2, c2, rfl, hm2, -⟩ := OwnL.form2 o2; have b2 : Below w.heap.size w u2 := c0_0.grown g2 c0_0.size (by simp [Value.ownBlock]))
    have HM2 := Lib.hid (show m2 = l.length from hm2.out.symm)
    clear g2 n2 hm2 hcu
    go_loopw [7, 8] (fun i i2 wr => ∃ m : Nat, m ≤ m2 ∧ i = .int .i64 m ∧ OwnL kC 77 wr w.heap.size (.slice A2 m2 c2) (rolM lo l m) ∧ Below w.heap.size w wr) (fun i _ _ => m2 - (intOf i).toNat)
    case atStart => exact ⟨0, Nat.zero_le _, rfl, by rw [rolM_zero]; exact o2, b2⟩
    case round =>
      obtain ⟨m, hm, rfl, ho1, hbel⟩ := hrel
      by_cases hlt : m < m2
      · obtain ⟨e, he⟩ : ∃ e, l[m]? = some e := ⟨_, List.getElem?_eq_getElem (by rw [← HM2.out]; exact hlt)⟩
        obtain ⟨g, hgA, -⟩ := own_some ho1 (by rw [rolM_len, ← HM2.out]; omega)
        subst hgA
        have hltI : (m : Int) < (m2 : Int) := by omega
        have hmn : m < m2 := hlt
        have hgw : w.heap.size ≤ g := (OwnL.lt ho1 g rfl).1
        have HRA := Lib.hid (rolM_at (os := lo) he)
        have HST := Lib.hid (rolM_step (os := lo) he)
        have HRL := Lib.hid (show m < (rolM lo l m).length by rw [rolM_len, ← HM2.out]; exact hlt)
        have HGD0 := Lib.hid (show (rolM lo l m).getD m kC.d = e by rw [List.getD_eq_getElem?_getD, HRA.out]; rfl)
        have HM1 := Lib.hid (show IntKind.i64.wrap ((m : Int) + 1) = ((m + 1 : Nat) : Int) by rw [IntKind.wrap_i64]; have := HLN.out; have := HM2.out; omega)
        have hok := (HFR.out.ok e (List.mem_of_getElem? he))
        have HOL := Lib.hid HFO.out.len
        have HON := Lib.hid (show lo.length ≤ 400000 from Nat.le_trans HFO.out.few hN)
        have HBL := Lib.hid hbel
        clear he hbel hok o2 b2
        go_wp2_with (first
          | (refine Held.wpList_run (w := wr) rfl (v := .pointer (some ⟨g, 0 + m * 4, none⟩)) (Held.y_addr (S := fun _ => True) rfl rfl rfl (Rs.run_addr_of (P := Try.prog) 26 77 g 0 m2 c2 m 4 .i64 Try.underlying26 (by kernel_rfl) hmn) _ trivial) ?_)
          | (refine Held.wpList_run (w := wr) rfl (v := .pointer (some ⟨g, 0 + m * 4 + 1, none⟩)) (Held.y_field (S := fun _ => True) (k := 1) (s := 0) rfl rfl Try.underlying77 rfl (by kernel_rfl) rfl _ trivial) ?_)
          | (refine Held.wpList_run (w := u3) rfl (v := .pointer (some ⟨g, 0 + m * 4, none⟩)) (Held.y_addr (S := fun _ => True) rfl rfl rfl (Rs.run_addr_of (P := Try.prog) 26 77 g 0 m2 c2 m 4 .i64 Try.underlying26 (by kernel_rfl) hmn) _ trivial) ?_)
          | (refine Held.wpList_run (w := u3) rfl (v := .pointer (some ⟨g, 0 + m * 4 + 2, none⟩)) (Held.y_field (S := fun _ => True) (k := 2) (s := 0) rfl rfl Try.underlying77 rfl (by kernel_rfl) rfl _ trivial) ?_)
          | (refine wpList_store_ownC (k := kC) (w := wr) rfl 4 _ _ 77 w.heap.size g m2 c2 (0 + m * 4 + 1) m 1 (rolM lo l m) ⟨e.k, false, e.x, e.a⟩ (.bool false) rfl (by kernel_rfl) rfl rfl rfl rfl rfl ho1 HRL.out (by decide) (by rw [HGD0.out]; rfl) ?_; intro u3 o3 g3)
          | (refine wpList_store_ownC (k := kC) (w := u3) rfl 31 _ _ 77 w.heap.size g m2 c2 (0 + m * 4 + 2) m 2 ((rolM lo l m).set m ⟨e.k, false, e.x, e.a⟩) ⟨e.k, false, Bs.nil, e.a⟩ (.slice none 0 0) rfl (by kernel_rfl) rfl rfl rfl rfl rfl o3 (by rw [List.length_set]; exact HRL.out) (by decide) (by rw [List.getD_eq_getElem?_getD, List.getElem?_set, if_pos rfl, if_pos HRL.out]; rfl) ?_; intro u4 o4 g4; rw [List.set_set] at o4))
        have b4 : Below w.heap.size w u4 := (HBL.out.grown g3 HBL.out.size (fun b e => by injection e with e; rw [← e]; exact hgw)).grown g4 (Nat.le_trans HBL.out.size g3.size) (fun b e => by injection e with e; rw [← e]; exact hgw)
        have HB4 := Lib.hid (And.intro o4 b4)
        clear ho1 o3 g3 o4 g4 b4 HBL
        go_loopw [8] (fun i wr => ∃ k : Nat, k ≤ no ∧ i = .int .i64 k ∧ OwnL kC 77 wr w.heap.size (.slice (some ⟨g, 0, none⟩) m2 c2) ((rolM lo l m).set m ⟨e.k, (shI lo e.k k).1, (shI lo e.k k).2, e.a⟩) ∧ Below w.heap.size w wr) (fun i _ => no - (intOf i).toNat)
        case atStart => exact ⟨0, Nat.zero_le _, rfl, HB4.out.1, HB4.out.2⟩
        case round =>
          clear HB4
          obtain ⟨i, hi, rfl, ho1, hbel⟩ := hrel
          by_cases hlti : i < no
          · obtain ⟨c9, hc9⟩ : ∃ c9, lo[i]? = some c9 := ⟨_, List.getElem?_eq_getElem (by rw [← HOL.out]; exact hlti)⟩
            obtain ⟨go, hgoA, -, hio, hgow, -, kw0, kw1, kw2, -⟩ := own_at HFO.out.own hc9
            have hes : ((rolM lo l m).set m ⟨e.k, (shI lo e.k i).1, (shI lo e.k i).2, e.a⟩)[m]? = some ⟨e.k, (shI lo e.k i).1, (shI lo e.k i).2, e.a⟩ := by rw [List.getElem?_set, if_pos rfl, if_pos HRL.out]
            obtain ⟨g', hgA', -, -, hgr, -, ke0, -, -, -⟩ := own_at ho1 hes
            injection hgA' with hgA'
            injection hgA' with hgA'
            subst hgA'
            have HGD := Lib.hid (show ((rolM lo l m).set m ⟨e.k, (shI lo e.k i).1, (shI lo e.k i).2, e.a⟩).getD m kC.d = ⟨e.k, (shI lo e.k i).1, (shI lo e.k i).2, e.a⟩ by rw [List.getD_eq_getElem?_getD, hes]; rfl)
            have HSI := Lib.hid (shI_step hc9 e.k)
            have ko0 : wr.cell? ⟨go, 0 + i * 4, none⟩ = some (encStr c9.k) := (hbel.cell (p := ⟨go, 0 + i * 4, none⟩) hgow).trans kw0
            have hgor : go < wr.heap.size := Nat.lt_of_lt_of_le hgow hbel.size
            have HI1 := Lib.hid (show IntKind.i64.wrap ((i : Int) + 1) = ((i + 1 : Nat) : Int) by rw [IntKind.wrap_i64]; have := HON.out; have := HOL.out; omega)
            have hltiI : (i : Int) < (no : Int) := by omega
            have HO1 := Lib.hid (And.intro ho1 hbel)
            have kw1 := kw1
            obtain ⟨go', hgo'⟩ : ∃ go', go' = go := ⟨_, rfl⟩
            subst hgoA
            clear hes hc9 kw0 hi hgo' go'
            go_wp2_with fail
            by_cases hk : c9.k = e.k
            · have HKD := Lib.hid (decide_eq_true hk)
              have hSH : shI lo e.k (i + 1) = (c9.sh, c9.x) := by rw [HSI.out, if_pos hk]
              have HSH := Lib.hid hSH
              clear hSH hk hbel ho1
              refine wp_region_held (S := fun W => Below wr.heap.size wr W) (by kernel_rfl) ?_
              change wpAnyH _ _ _ _ _ _ _ _ wr.drew
              have c0_0 := (Below.refl wr.heap.size wr).drew
              refine Held.tk (v := .slice (some ⟨go, 0, none⟩) no co) 0 (some 60) rfl (Held.y_move rfl rfl) c0_0 ?_
              simp only [Act.put, Z1, Z2, Z3]
              refine Held.tk (v := (.int .i64 (i : Int))) 1 (some 61) rfl (Held.y_move rfl rfl) c0_0 ?_
              simp only [Act.put, Z1, Z2, Z3]
              refine Held.tk (v := .pointer (some ⟨go, 0 + i * 4, none⟩)) 2 (some 62) rfl (Held.y_addr rfl rfl rfl (fun W => Rs.run_addr_of (P := Try.prog) 26 77 go 0 no co i 4 .i64 Try.underlying26 (by kernel_rfl) hio W)) c0_0 ?_
              simp only [Act.put, Z1, Z2, Z3]
              refine Held.tk (v := .pointer (some ⟨go, 0 + i * 4, none⟩)) 3 (some 63) rfl (Held.y_field (k := 0) (s := 0) rfl rfl Try.underlying77 rfl (by kernel_rfl) rfl) c0_0 ?_
              simp only [Act.put, Z1, Z2, Z3]
              refine Held.tk (v := encStr c9.k) 4 (some 64) rfl (Held.y_load rfl rfl (by kernel_rfl) (fun W hW => (hW.cell (p := ⟨go, 0 + i * 4, none⟩) hgor).trans ko0)) c0_0 ?_
              simp only [Act.put, Z1, Z2, Z3]
              refine Held.tk (v := .slice (some ⟨g, 0, none⟩) m2 c2) 5 (some 65) rfl (Held.y_move rfl rfl) c0_0 ?_
              simp only [Act.put, Z1, Z2, Z3]
              refine Held.tk (v := .int .i64 (m : Int)) 6 (some 66) rfl (Held.y_move rfl rfl) c0_0 ?_
              simp only [Act.put, Z1, Z2, Z3]
              refine Held.tk (v := .pointer (some ⟨g, 0 + m * 4, none⟩)) 7 (some 67) rfl (Held.y_addr rfl rfl rfl (fun W => Rs.run_addr_of (P := Try.prog) 26 77 g 0 m2 c2 m 4 .i64 Try.underlying26 (by kernel_rfl) hmn W)) c0_0 ?_
              simp only [Act.put, Z1, Z2, Z3]
              refine Held.tk (v := .pointer (some ⟨g, 0 + m * 4, none⟩)) 8 (some 68) rfl (Held.y_field (k := 0) (s := 0) rfl rfl Try.underlying77 rfl (by kernel_rfl) rfl) c0_0 ?_
              simp only [Act.put, Z1, Z2, Z3]
              refine Held.tk (v := encStr e.k) 9 (some 69) rfl (Held.y_load rfl rfl (by kernel_rfl) (fun W hW => (hW.cell (p := ⟨g, 0 + m * 4, none⟩) hgr).trans ke0)) c0_0 ?_
              simp only [Act.put, Z1, Z2, Z3]
              refine Held.tk (v := .bool true) 10 (some 70) rfl (y_eqS2 (xs := c9.k) (ys := e.k) rfl rfl rfl HKD.out) c0_0 ?_
              simp only [Act.put, Z1, Z2, Z3]
              refine wpAnyH_done (by kernel_rfl) ?_ _
              have hbel1 : Below w.heap.size w wr.drew := HO1.out.2.drew
              have ho1 : OwnL kC 77 wr.drew w.heap.size (.slice (some ⟨g, 0, none⟩) m2 c2) ((rolM lo l m).set m ⟨e.k, (shI lo e.k i).1, (shI lo e.k i).2, e.a⟩) := OwnL.below HO1.out.1 c0_0
              obtain ⟨wr1, hwr1⟩ : ∃ W, wr.drew = W := ⟨_, rfl⟩
              rw [hwr1] at hbel1 ho1 ⊢
              clear hwr1 c0_0 ko0 ke0 HO1 hgr hgor
              go_wp2_with fail
              refine wp_region_bar (T := fun W => Below w.heap.size w W) (s := 19) (by kernel_rfl) ?_
              change wpAnyB _ _ _ _ _ _ _ _ _ wr1.drew
              have D0 : Below wr1.heap.size wr1 wr1.drew := (Below.refl _ _).drew
              have T0 : Below w.heap.size w wr1.drew := hbel1.drew
              refine Held.takeB (v := .slice (some ⟨g, 0, none⟩) m2 c2) 0 (some 71) [19] rfl rfl (by kernel_rfl) (by kernel_rfl) (by kernel_rfl) (by kernel_rfl) (fun _ _ _ h => h) rfl (Held.y_move rfl rfl) T0 ?_
              simp only [Act.put, Z1, Z2, Z3]
              refine Held.takeB (v := .int .i64 (m : Int)) 1 (some 72) [19] rfl rfl (by kernel_rfl) (by kernel_rfl) (by kernel_rfl) (by kernel_rfl) (fun _ _ _ h => h) rfl (Held.y_move rfl rfl) T0 ?_
              simp only [Act.put, Z1, Z2, Z3]
              refine Held.takeB (v := .slice (some ⟨g, 0, none⟩) m2 c2) 2 (some 73) [19] rfl rfl (by kernel_rfl) (by kernel_rfl) (by kernel_rfl) (by kernel_rfl) (fun _ _ _ h => h) rfl (Held.y_move rfl rfl) T0 ?_
              simp only [Act.put, Z1, Z2, Z3]
              refine Held.takeB (v := .int .i64 (m : Int)) 3 (some 74) [19] rfl rfl (by kernel_rfl) (by kernel_rfl) (by kernel_rfl) (by kernel_rfl) (fun _ _ _ h => h) rfl (Held.y_move rfl rfl) T0 ?_
              simp only [Act.put, Z1, Z2, Z3]
              refine Held.takeB (v := .slice (some ⟨go, 0, none⟩) no co) 4 (some 75) [19] rfl rfl (by kernel_rfl) (by kernel_rfl) (by kernel_rfl) (by kernel_rfl) (fun _ _ _ h => h) rfl (Held.y_move rfl rfl) T0 ?_
              simp only [Act.put, Z1, Z2, Z3]
              refine Held.takeB (v := (.int .i64 (i : Int))) 5 (some 76) [19] rfl rfl (by kernel_rfl) (by kernel_rfl) (by kernel_rfl) (by kernel_rfl) (fun _ _ _ h => h) rfl (Held.y_move rfl rfl) T0 ?_
              simp only [Act.put, Z1, Z2, Z3]
              refine Held.takeB (v := .pointer (some ⟨go, 0 + i * 4, none⟩)) 6 (some 77) [19] rfl rfl (by kernel_rfl) (by kernel_rfl) (by kernel_rfl) (by kernel_rfl) (fun _ _ _ h => h) rfl (Held.y_addr rfl rfl rfl (fun W => Rs.run_addr_of (P := Try.prog) 26 77 go 0 no co i 4 .i64 Try.underlying26 (by kernel_rfl) hio W)) T0 ?_
              simp only [Act.put, Z1, Z2, Z3]
              refine Held.takeB (v := .pointer (some ⟨go, 0 + i * 4 + 1, none⟩)) 7 (some 78) [19] rfl rfl (by kernel_rfl) (by kernel_rfl) (by kernel_rfl) (by kernel_rfl) (fun _ _ _ h => h) rfl (Held.y_field (k := 1) (s := 0) rfl rfl Try.underlying77 rfl (by kernel_rfl) rfl) T0 ?_
              simp only [Act.put, Z1, Z2, Z3]
              refine Held.takeB (v := .bool c9.sh) 8 (some 79) [19] rfl rfl (by kernel_rfl) (by kernel_rfl) (by kernel_rfl) (by kernel_rfl) (fun _ _ _ h => h) rfl (Held.y_load rfl rfl (by kernel_rfl) (fun W hW => (hW.cell (p := ⟨go, 0 + i * 4 + 1, none⟩) hgow).trans kw1)) T0 ?_
              simp only [Act.put, Z1, Z2, Z3]
              refine Held.takeB (v := .slice (some ⟨go, 0, none⟩) no co) 9 (some 80) [19] rfl rfl (by kernel_rfl) (by kernel_rfl) (by kernel_rfl) (by kernel_rfl) (fun _ _ _ h => h) rfl (Held.y_move rfl rfl) T0 ?_
              simp only [Act.put, Z1, Z2, Z3]
              refine Held.takeB (v := (.int .i64 (i : Int))) 10 (some 81) [19] rfl rfl (by kernel_rfl) (by kernel_rfl) (by kernel_rfl) (by kernel_rfl) (fun _ _ _ h => h) rfl (Held.y_move rfl rfl) T0 ?_
              simp only [Act.put, Z1, Z2, Z3]
              refine Held.takeB (v := .pointer (some ⟨go, 0 + i * 4, none⟩)) 11 (some 82) [19] rfl rfl (by kernel_rfl) (by kernel_rfl) (by kernel_rfl) (by kernel_rfl) (fun _ _ _ h => h) rfl (Held.y_addr rfl rfl rfl (fun W => Rs.run_addr_of (P := Try.prog) 26 77 go 0 no co i 4 .i64 Try.underlying26 (by kernel_rfl) hio W)) T0 ?_
              simp only [Act.put, Z1, Z2, Z3]
              refine Held.takeB (v := .pointer (some ⟨go, 0 + i * 4 + 2, none⟩)) 12 (some 83) [19] rfl rfl (by kernel_rfl) (by kernel_rfl) (by kernel_rfl) (by kernel_rfl) (fun _ _ _ h => h) rfl (Held.y_field (k := 2) (s := 0) rfl rfl Try.underlying77 rfl (by kernel_rfl) rfl) T0 ?_
              simp only [Act.put, Z1, Z2, Z3]
              refine Held.takeB (v := .slice c9.x.A c9.x.n c9.x.c) 13 (some 84) [19] rfl rfl (by kernel_rfl) (by kernel_rfl) (by kernel_rfl) (by kernel_rfl) (fun _ _ _ h => h) rfl (Held.y_load rfl rfl (by kernel_rfl) (fun W hW => (hW.cell (p := ⟨go, 0 + i * 4 + 2, none⟩) hgow).trans kw2)) T0 ?_
              simp only [Act.put, Z1, Z2, Z3]
              refine Held.takeB (v := .pointer (some ⟨g, 0 + m * 4, none⟩)) 14 (some 85) [19] rfl rfl (by kernel_rfl) (by kernel_rfl) (by kernel_rfl) (by kernel_rfl) (fun _ _ _ h => h) rfl (Held.y_addr rfl rfl rfl (fun W => Rs.run_addr_of (P := Try.prog) 26 77 g 0 m2 c2 m 4 .i64 Try.underlying26 (by kernel_rfl) hmn W)) T0 ?_
              simp only [Act.put, Z1, Z2, Z3]
              refine Held.takeB (v := .pointer (some ⟨g, 0 + m * 4 + 1, none⟩)) 15 (some 86) [19] rfl rfl (by kernel_rfl) (by kernel_rfl) (by kernel_rfl) (by kernel_rfl) (fun _ _ _ h => h) rfl (Held.y_field (k := 1) (s := 0) rfl rfl Try.underlying77 rfl (by kernel_rfl) rfl) T0 ?_
              simp only [Act.put, Z1, Z2, Z3]
              refine Held.oneB 16 (by kernel_rfl) ?_
              refine op_store_ownC (k := kC) 16 none 4 77 w.heap.size g m2 c2 (0 + m * 4 + 1) m 1 ((rolM lo l m).set m ⟨e.k, (shI lo e.k i).1, (shI lo e.k i).2, e.a⟩) ⟨e.k, c9.sh, (shI lo e.k i).2, e.a⟩ (.bool c9.sh) rfl rfl rfl rfl (by kernel_rfl) rfl rfl rfl rfl rfl (OwnL.below ho1 D0) (by rw [List.length_set]; exact HRL.out) (by decide) (by rw [HGD.out]; rfl) ?_
              intro wA oA gA
              have T0 : Below w.heap.size w wA := T0.grown gA T0.size (fun b e => by injection e with e; rw [← e]; exact hgw)
              rw [List.set_set] at oA
              refine ⟨fun _ => T0, ?_⟩
              simp only [Act.put]
              refine Held.takeB (v := .pointer (some ⟨g, 0 + m * 4, none⟩)) 17 (some 87) [18, 19] rfl rfl (by kernel_rfl) (by kernel_rfl) (by kernel_rfl) (by kernel_rfl) (fun _ _ _ h => h) rfl (Held.y_addr rfl rfl rfl (fun W => Rs.run_addr_of (P := Try.prog) 26 77 g 0 m2 c2 m 4 .i64 Try.underlying26 (by kernel_rfl) hmn W)) T0 ?_
              simp only [Act.put, Z1, Z2, Z3]
              refine Held.takeB (v := .pointer (some ⟨g, 0 + m * 4 + 2, none⟩)) 18 (some 88) [19] rfl rfl (by kernel_rfl) (by kernel_rfl) (by kernel_rfl) (by kernel_rfl) (fun _ _ _ h => h) rfl (Held.y_field (k := 2) (s := 0) rfl rfl Try.underlying77 rfl (by kernel_rfl) rfl) T0 ?_
              simp only [Act.put, Z1, Z2, Z3]
              refine Held.oneB 19 (by kernel_rfl) ?_
              refine op_store_ownC (k := kC) 19 none 31 77 w.heap.size g m2 c2 (0 + m * 4 + 2) m 2 ((rolM lo l m).set m ⟨e.k, c9.sh, (shI lo e.k i).2, e.a⟩) ⟨e.k, c9.sh, c9.x, e.a⟩ (.slice c9.x.A c9.x.n c9.x.c) rfl rfl rfl rfl (by kernel_rfl) rfl rfl rfl rfl rfl oA (by rw [List.length_set]; exact HRL.out) (by decide) (by rw [List.getD_eq_getElem?_getD, List.getElem?_set, if_pos rfl, if_pos HRL.out]; rfl) ?_
              intro wB oB gB
              have T0 : Below w.heap.size w wB := T0.grown gB T0.size (fun b e => by injection e with e; rw [← e]; exact hgw)
              rw [List.set_set] at oB
              refine ⟨fun h => (by cases h.symm.trans (show _ = true by kernel_rfl)), ?_⟩
              simp only [Act.put]
              refine Held.doneB (by kernel_rfl) ?_ _
              have HB := Lib.hid (And.intro oB T0)
              clear oB T0 oA gA gB ho1 hbel1 D0
              go_wp2_with (refine Held.wpList_run (w := wB) rfl (v := .int .i64 ((i + 1 : Nat) : Int)) (y_addI (S := fun _ => True) (i : Int) 1 rfl rfl rfl HI1.out _ trivial) ?_)
              go_roundw
              case rel => exact ⟨i + 1, by omega, rfl, by rw [HSH.out]; exact HB.out.1, HB.out.2⟩
              case measure => simp [intOf]; omega
            · have HKD := Lib.hid (decide_eq_false hk)
              have hSH : shI lo e.k (i + 1) = shI lo e.k i := by rw [HSI.out, if_neg hk]
              have HSH := Lib.hid hSH
              clear hSH hk hbel ho1
              refine wp_region_held (S := fun W => Below wr.heap.size wr W) (by kernel_rfl) ?_
              change wpAnyH _ _ _ _ _ _ _ _ wr.drew
              have c0_0 := (Below.refl wr.heap.size wr).drew
              refine Held.tk (v := .slice (some ⟨go, 0, none⟩) no co) 0 (some 60) rfl (Held.y_move rfl rfl) c0_0 ?_
              simp only [Act.put, Z1, Z2, Z3]
              refine Held.tk (v := (.int .i64 (i : Int))) 1 (some 61) rfl (Held.y_move rfl rfl) c0_0 ?_
              simp only [Act.put, Z1, Z2, Z3]
              refine Held.tk (v := .pointer (some ⟨go, 0 + i * 4, none⟩)) 2 (some 62) rfl (Held.y_addr rfl rfl rfl (fun W => Rs.run_addr_of (P := Try.prog) 26 77 go 0 no co i 4 .i64 Try.underlying26 (by kernel_rfl) hio W)) c0_0 ?_
              simp only [Act.put, Z1, Z2, Z3]
              refine Held.tk (v := .pointer (some ⟨go, 0 + i * 4, none⟩)) 3 (some 63) rfl (Held.y_field (k := 0) (s := 0) rfl rfl Try.underlying77 rfl (by kernel_rfl) rfl) c0_0 ?_
              simp only [Act.put, Z1, Z2, Z3]
              refine Held.tk (v := encStr c9.k) 4 (some 64) rfl (Held.y_load rfl rfl (by kernel_rfl) (fun W hW => (hW.cell (p := ⟨go, 0 + i * 4, none⟩) hgor).trans ko0)) c0_0 ?_
              simp only [Act.put, Z1, Z2, Z3]
              refine Held.tk (v := .slice (some ⟨g, 0, none⟩) m2 c2) 5 (some 65) rfl (Held.y_move rfl rfl) c0_0 ?_
              simp only [Act.put, Z1, Z2, Z3]
              refine Held.tk (v := .int .i64 (m : Int)) 6 (some 66) rfl (Held.y_move rfl rfl) c0_0 ?_
              simp only [Act.put, Z1, Z2, Z3]
              refine Held.tk (v := .pointer (some ⟨g, 0 + m * 4, none⟩)) 7 (some 67) rfl (Held.y_addr rfl rfl rfl (fun W => Rs.run_addr_of (P := Try.prog) 26 77 g 0 m2 c2 m 4 .i64 Try.underlying26 (by kernel_rfl) hmn W)) c0_0 ?_
              simp only [Act.put, Z1, Z2, Z3]
              refine Held.tk (v := .pointer (some ⟨g, 0 + m * 4, none⟩)) 8 (some 68) rfl (Held.y_field (k := 0) (s := 0) rfl rfl Try.underlying77 rfl (by kernel_rfl) rfl) c0_0 ?_
              simp only [Act.put, Z1, Z2, Z3]
              refine Held.tk (v := encStr e.k) 9 (some 69) rfl (Held.y_load rfl rfl (by kernel_rfl) (fun W hW => (hW.cell (p := ⟨g, 0 + m * 4, none⟩) hgr).trans ke0)) c0_0 ?_
              simp only [Act.put, Z1, Z2, Z3]
              refine Held.tk (v := .bool false) 10 (some 70) rfl (y_eqS2 (xs := c9.k) (ys := e.k) rfl rfl rfl HKD.out) c0_0 ?_
              simp only [Act.put, Z1, Z2, Z3]
              refine wpAnyH_done (by kernel_rfl) ?_ _
              have HB := Lib.hid (And.intro (OwnL.below HO1.out.1 c0_0) HO1.out.2.drew)
              obtain ⟨wr1, hwr1⟩ : ∃ W, wr.drew = W := ⟨_, rfl⟩
              rw [hwr1] at HB ⊢
              clear hwr1 c0_0 ko0 ke0 HO1 hgr hgor
              go_wp2_with (refine Held.wpList_run (w := wr1) rfl (v := .int .i64 ((i + 1 : Nat) : Int)) (y_addI (S := fun _ => True) (i : Int) 1 rfl rfl rfl HI1.out _ trivial) ?_)
              go_roundw
              case rel => exact ⟨i + 1, by omega, rfl, by rw [HSH.out]; exact HB.out.1, HB.out.2⟩
              case measure => simp [intOf]; omega
          · obtain rfl : i = no := by omega
            have HB := Lib.hid (And.intro ho1 hbel)
            clear ho1 hbel
            go_wp2_with (refine Held.wpList_run (w := wr) rfl (v := .int .i64 ((m + 1 : Nat) : Int)) (y_addI (S := fun _ => True) (m : Int) 1 rfl rfl rfl HM1.out _ trivial) ?_)
            go_roundw
            case rel => exact ⟨m + 1, by omega, rfl, by rw [HST.out, ← HOL.out]; exact HB.out.1, HB.out.2⟩
            case measure => simp [intOf]; omega
      · obtain rfl : m = m2 := by omega
        have HRE := Lib.hid (show rolM lo l m = rolR lo l from rolM_all (by rw [← HM2.out]; exact Nat.le_refl _))
        have hbr := hb.below hbel hrl
        clear o2 b2
        go_wp2_with (refine wpList_store_field (w := wr) rfl 26 _ _ rfl r 0 rfl 29 _ (.slice A2 m c2) rfl hbr (by simp) (by kernel_rfl) rfl rfl ?_; intro u9 q9 g9 z9)
        go_ret
        have q9 : Blk u9 r 29 #[.slice A2 m c2, .slice (some ⟨gO, 0, none⟩) n' c'] := q9
        have K9 : KeepsP (fun b => b ≠ r ∧ b < w.heap.size) w u9 := (KeepsP.of_below hbel).trans (KeepsP.of_grown g9 (fun b e hb => by injection e with e; exact hb.1 e.symm))
        have o9 : OwnL kC 77 u9 w.heap.size (.slice A2 m c2) (rolM lo l m) := OwnL.kept ho1 g9 (.inr fun e => OwnL.ne_blk ho1 hbr (by decide) e)
        rw [HRE.out] at o9
        have k9 : KeepsP (fun b => ow b = 1) w u9 := ⟨K9.os, K9.tape, K9.output, K9.size, fun b o hb ho => K9.block b o ⟨fun e => by have h1 : ow b = 1 := hb; have h2 := HOW.out; rw [e] at h1; omega, (Array.getElem?_eq_some_iff.1 ho).1⟩ ho⟩
        refine .inr (.inr ⟨rfl, j, ⟨Ao, no, co, lo⟩, HQ.out, HQ0.out, HOJ.out, HREL.out u9 A2 m c2 K9 q9 ⟨OwnL.less o9 (Nat.zero_le _), fun b e => .inr (OwnL.lt o9 b e).1, fun e he => ?_, ?_⟩ (Nat.le_refl _)⟩)
        · obtain ⟨e0, he0, rfl⟩ := List.mem_map.1 he
          have h1 := ((HFR.out.ok e0 he0).keep k9).less (S' := fun b => ow b = 1 ∨ w.heap.size ≤ b) fun b hb _ => .inl hb
          refine ⟨?_, h1.a, h1.al, h1.ys, h1.few⟩
          rcases shI_bs lo e0.k lo.length with h | ⟨c, hc, h⟩
          · show Rd _ _ (shI lo e0.k lo.length).2
            rw [h]
            exact Rd.nil _ _
          · show Rd _ _ (shI lo e0.k lo.length).2
            rw [h]
            exact ((HFO.out.ok c hc).x.keep k9).less fun b hb _ => .inl hb
        · unfold rolR
          rw [List.length_map]
          exact HFR.out.few
end
end Go.Proofs.Ytbippmbcgkicaaa.Sto
namespace Go.Proofs.Ytbippmbcgkicaaa.Sto
open Go.RowKit Go.Shelf Go.Proofs.Ytbippmbcgkicaaa Mem Held Sl Go.Proofs.Ytbippmbcgkicaaa.Range
attribute [local irreducible] wpList wpListIn Calls
section
variable {ow ow2 : Nat → Nat} {w : World} {s r N M : Nat} {W : Int} {es : List Ent} {l : List Cr} {O : List Ol} {k : Nm}
theorem get_b (H : SI ow w s W N es) (hk : k.length ≤ maxLen) (hN : N ≤ 900000) {b : Bool} {z : List Int} (h : shwP (absL es) k = (b, z)) :
    Calls Try.prog 26 #[.pointer (some ⟨s, 0, none⟩), encStr k] w fun e w' => ∃ (A : Option Addr) (n c : Nat), e = .returned (.tuple #[.slice A n c, .bool b]) ∧ Mem.Own w' w.heap.size 5 .u8 (.slice A n c) z ∧ z.length = n ∧ n ≤ 1099511627776 ∧ Below w.heap.size w w' := by
  refine (get_si H hk hN).mono ?_
  rintro e w' ⟨y, rfl, hz, ho, hr, hb⟩
  rw [h] at hz ⊢
  have hz : y.zs = z := hz
  refine ⟨y.A, y.n, y.c, rfl, hz ▸ ho, ?_, hr.2.1, hb⟩
  rw [← hz]
  exact hr.len
theorem rget_b (H : Ref ow2 w r M l O) (hd : Doc (absL es) W (absC l) (absO O)) (hM : M ≤ 1000000) {b : Bool} {z : List Int} (h : shwP (absL es) k = (b, z)) (hoff : b = false → z = []) :
    Calls Try.prog 50 #[.pointer (some ⟨r, 0, none⟩), encStr k] w fun e w' => ∃ (A : Option Addr) (n c : Nat), e = .returned (.tuple #[.slice A n c, .bool b]) ∧ Ints w' .u8 w'.heap.size A n z ∧ Below w.heap.size w w' := by
  refine (rget_any (x := k) H hd.srt hM).mono ?_
  rintro e w' ⟨y, rfl, h1, h2, hr, hb⟩
  rw [hd.shw k, h] at h1 h2 ⊢
  have hz : y.zs = z := by
    cases b with
    | true => exact h1 rfl
    | false => rw [hoff rfl]; exact h2 rfl
  exact ⟨y.A, y.n, y.c, rfl, hz ▸ hr.1, hb⟩
theorem spoil_b {V V' : World} {A : Option Addr} {n c : Nat} {z : List Int} (ho : Mem.Own V w.heap.size 5 .u8 (.slice A n c) z) (hl : z.length = n) (hn : n ≤ 1099511627776) (hb : Below w.heap.size w V) :
    Calls Try.prog 24 #[.slice A n c] V fun e w' => e = .returned (.tuple #[]) ∧ Below w.heap.size w w' := by
  refine (Help.spoil_any w.heap.size A n c z V ho hl (by omega)).mono ?_
  rintro e w' ⟨rfl, hg⟩
  refine ⟨rfl, hb.grown hg hb.size (fun b e => ?_)⟩
  rcases ho.2.2 with ⟨e1, _⟩ | ⟨g, cap, cur, e1, hbase, _⟩
  · rw [e1] at e; cases e
  · rw [e1] at e; injection e with e; rw [← e]; exact hbase
theorem ref_klen (hd : Doc (absL es) W (absC l) (absO O)) (H : SI ow w s W N es) : ∀ d ∈ l, d.k.length ≤ maxLen := fun d hd' => by
  have h1 : d.k ∈ keysP (absL es) := (hd.key d.k).1 (by unfold absC; rw [List.map_map]; exact List.mem_map.2 ⟨d, hd', rfl⟩)
  rw [abs_keys] at h1
  obtain ⟨e, he, h2⟩ := List.mem_map.1 h1
  rw [← h2]
  exact (H.sto.few e he).2.2
set_option maxRecDepth 100000 in
set_option maxHeartbeats 16000000 in
theorem shows_ok (H : SI ow w s W N es) (H2 : Ref ow2 w r M l O) (hd : Doc (absL es) W (absC l) (absO O)) (hl : l.length ≤ 100) (hk : k.length ≤ maxLen) (hN : N ≤ 400000) (hM : M ≤ 400000) :
    Calls Try.prog 25 #[.pointer (some ⟨s, 0, none⟩), .pointer (some ⟨r, 0, none⟩), encStr k] w fun e w' => e = .returned (.bool true) ∧ Below w.heap.size w w' := by
  have HI := Lib.hid H
  have HR := Lib.hid H2
  have HD := Lib.hid hd
  have HK := Lib.hid hk
  have hOW : (O.length : Int) = W := by have := hd.len; unfold absO at this; rw [List.length_map] at this; exact this
  have hve : (verP (absL es) k).length = (verC (absC l) k).length := by rw [hd.ver k]
  have HV := Lib.hid hve
  have hkl := ref_klen hd H
  have HKL := Lib.hid hkl
  have HL := Lib.hid hl
  have HNM := Lib.hid (And.intro hN hM)
  have HOW := Lib.hid hOW
  clear hOW hve hkl
  go_enter Try.func25, Try.ntmps25
  go_wp2_with fail
  refine (names_any H (by omega)).mono ?_
  rintro e1 w1 ⟨bx, ss, Nd, rfl, hit, hNd, b1, hsl, hsp, hsd, hsm, hsk⟩
  have hss : ss = namC (absC l) := hd.names hsp hsd hsm
  have hss2 : ss = namR l := by rw [hss, namR_abs]
  have hsl100 : ss.length ≤ 100 := by rw [hss2]; have := namR_len l l.length; rw [List.take_of_length_le (Nat.le_refl _)] at this; omega
  have HSS := Lib.hid (And.intro hss2 (And.intro hsl100 (And.intro hsm hsk)))
  have hseq := seqS_any 100 63 #[.pointer (some ⟨bx, 0, none⟩)] Nd ss w1 (enters_of Try.func63 (by kernel_rfl) rfl) hit (fun r h => (hNd r h).2) (by omega) (by omega) hsk
  clear hit hNd hsl hsp hsd hsm hsk hss hss2 hsl100 H H2 hd hk hl hN hM
  go_wp2_with fail
  refine hseq.mono ?_
  rintro e2 w2 ⟨v, rfl, ov, b2⟩
  obtain ⟨A, n, c, rfl, hn, -⟩ := OwnL.form2 ov
  have b02 := b1.trans (b2.mono b1.size)
  clear hseq
  go_wp2_with fail
  refine (rnames_any (HR.out.below b02) (by have := HNM.out.2; omega) HKL.out).mono ?_
  rintro e3 w3 ⟨v3, rfl, ov3, b3⟩
  obtain ⟨A3, n3, c3, rfl, hn3, -⟩ := OwnL.form2 ov3
  have b03 := b02.trans (b3.mono b02.size)
  have hpl := plainS_any (A' := A3) (n' := n3) (c' := c3) (OwnL.below ov b3) (by rw [HSS.out.1]; exact ov3) (by have := HSS.out.2.1; omega)
  have ov := OwnL.below ov b3
  clear ov3 hn3
  go_wp2_with fail
  refine hpl.mono ?_
  rintro e4 w4 ⟨rfl, b4⟩
  have b04 := b03.trans (b4.mono b03.size)
  have ov := OwnL.below ov b4
  have hwr := writes_si (HI.out.below b04)
  have hrw := rwrites_any (HR.out.below b04)
  rw [HOW.out] at hrw
  clear hpl
  go_wp2_with fail
  refine hwr.mono ?_
  rintro e5 w5 ⟨rfl, rfl⟩
  go_wp2_with fail
  refine hrw.mono ?_
  rintro e6 w6 ⟨rfl, rfl⟩
  have hvs := versions_si (HI.out.below b04) (k := k) HK.out
  have hrv := rversions_any (x := k) (HR.out.below b04) HD.out.srt (by have := HNM.out.2; omega)
  rw [HV.out] at hvs
  clear hwr hrw
  go_wp2_with fail
  refine hvs.mono ?_
  rintro e7 w7 ⟨rfl, rfl⟩
  go_wp2_with fail
  refine hrv.mono ?_
  rintro e8 w8 ⟨rfl, b8⟩
  have b08 := b04.trans (b8.mono b04.size)
  have ov := OwnL.below ov b8
  clear hvs hrv b1 b2 b3 b4 b8 b02 b03 b04
  have HN := Lib.hid hn.out
  clear hn
  go_wp2_with fail
  go_loopw [9] (fun i wr => ∃ m : Nat, m ≤ n ∧ i = .int .i64 m ∧ Below w8.heap.size w8 wr) (fun i _ => n - (intOf i).toNat)
  case atStart => exact ⟨0, Nat.zero_le _, rfl, Below.refl _ _⟩
  case round =>
    obtain ⟨m, hm, rfl, hst⟩ := hrel
    by_cases hlt : m < n
    · have hX := OwnL.below ov hst
      have hml : m < ss.length := by rw [HN.out]; exact hlt
      obtain ⟨g, e1, -⟩ := own_some hX (by omega)
      subst e1
      obtain ⟨x, hx⟩ : ∃ x, ss[m]? = some x := ⟨_, List.getElem?_eq_getElem hml⟩
      have hcell : wr.cell? ⟨g, 0 + m * 1, none⟩ = some (encStr x) := by
        have h9 := own_range hX (i := m) hml
        rw [List.getD_eq_getElem?_getD, hx] at h9
        exact h9 0 _ rfl
      have hgl : g < wr.heap.size := (OwnL.lt hX g rfl).2
      have hxm := List.mem_of_getElem? hx
      have hsx : (shwP (absL es) x).1 = true := (HSS.out.2.2.1 x).1 hxm
      obtain ⟨z, hz⟩ : ∃ z, shwP (absL es) x = (true, z) := ⟨_, Prod.ext hsx rfl⟩
      have b0r := b08.trans (hst.mono b08.size)
      have hg1 := get_b (HI.out.below b0r) (HSS.out.2.2.2 x hxm) (by have := HNM.out.1; omega) hz
      have HZ := Lib.hid hz
      have hmI : (m : Int) < (n : Int) := by omega
      have HM1 := Lib.hid (show IntKind.i64.wrap ((m : Int) + 1) = ((m + 1 : Nat) : Int) by rw [IntKind.wrap_i64]; have := HSS.out.2.1; have := HN.out; omega)
      clear hX hml hx hxm hsx hz
      go_wp2_with (first
        | (refine Held.wpList_run (w := wr) rfl (v := .pointer (some ⟨g, 0 + m * 1, none⟩)) (Held.y_addr (S := fun _ => True) rfl rfl rfl (Rs.run_addr_of (P := Try.prog) 46 9 g 0 n c m 1 .i64 Try.underlying46 (by kernel_rfl) hlt) _ trivial) ?_)
        | (refine Held.wpList_run (w := wr) rfl (v := encStr x) (Held.y_load (S := fun W => W = wr) (p := ⟨g, 0 + m * 1, none⟩) rfl rfl (by kernel_rfl) (fun W hW => hW ▸ hcell) _ rfl) ?_))
      refine hg1.mono ?_
      rintro e9 x1 ⟨A9, n9, c9, rfl, o9, l9, k9, b9⟩
      have hcell1 := (b9.cell (p := ⟨g, 0 + m * 1, none⟩) hgl).trans hcell
      have hg2 := rget_b (k := x) (HR.out.below (b0r.trans (b9.mono b0r.size))) HD.out (by have := HNM.out.2; omega) HZ.out (fun h => by cases h)
      clear hg1
      go_wp2_with (first
        | (refine Held.wpList_run (w := x1) rfl (v := .pointer (some ⟨g, 0 + m * 1, none⟩)) (Held.y_addr (S := fun _ => True) rfl rfl rfl (Rs.run_addr_of (P := Try.prog) 46 9 g 0 n c m 1 .i64 Try.underlying46 (by kernel_rfl) hlt) _ trivial) ?_)
        | (refine Held.wpList_run (w := x1) rfl (v := encStr x) (Held.y_load (S := fun W => W = x1) (p := ⟨g, 0 + m * 1, none⟩) rfl rfl (by kernel_rfl) (fun W hW => hW ▸ hcell1) _ rfl) ?_))
      refine hg2.mono ?_
      rintro e10 x2 ⟨A10, n10, c10, rfl, i10, b10⟩
      have o10 := Mem.Own.below o9 b10
      have hby := Help.bytes_any x2.heap.size x2.heap.size A9 A10 n9 n10 c9 c10 z z x2 (o10.ints l9) i10
      have hzz : decide (z = z) = true := decide_eq_true rfl
      rw [hzz] at hby
      have b910 := b9.trans (b10.mono b9.size)
      have hsp := spoil_b (w := wr) (V' := x2) o10 l9 k9 b910
      clear hg2 hzz o9 i10
      go_wp2_with fail
      refine hby.mono ?_
      rintro e11 x3 ⟨rfl, rfl⟩
      go_wp2_with fail
      refine hsp.mono ?_
      rintro e12 x4 ⟨rfl, b12⟩
      clear hby hsp
      go_wp2_with (refine Held.wpList_run (w := x4) rfl (v := .int .i64 ((m + 1 : Nat) : Int)) (y_addI (S := fun _ => True) (m : Int) 1 rfl rfl rfl HM1.out _ trivial) ?_)
      go_roundw
      case rel => exact ⟨m + 1, by omega, rfl, hst.trans (b12.mono hst.size)⟩
      case measure => simp [intOf]; omega
    · obtain rfl : m = n := by omega
      obtain ⟨b, z, hz⟩ : ∃ b z, shwP (absL es) k = (b, z) := ⟨_, _, rfl⟩
      have hoff : b = false → z = [] := fun h => by have := shw_off HI.out.good (x := k); rw [hz] at this; exact this h
      have b0r := b08.trans (hst.mono b08.size)
      have hg1 := get_b (HI.out.below b0r) HK.out (by have := HNM.out.1; omega) hz
      have HG2 := Lib.hid (fun (V : World) (hV : Below w.heap.size w V) => rget_b (k := k) (HR.out.below hV) HD.out (by have := HNM.out.2; omega) hz hoff)
      clear hz hoff ov
      go_wp2_with fail
      refine hg1.mono ?_
      rintro e9 x1 ⟨A9, n9, c9, rfl, o9, l9, k9, b9⟩
      have b01 := b0r.trans (b9.mono b0r.size)
      clear hg1
      go_wp2_with fail
      refine (HG2.out x1 b01).mono ?_
      rintro e10 x2 ⟨A10, n10, c10, rfl, i10, b10⟩
      have o10 := Mem.Own.below o9 b10
      have hby := Help.bytes_any x2.heap.size x2.heap.size A9 A10 n9 n10 c9 c10 z z x2 (o10.ints l9) i10
      have hzz : decide (z = z) = true := decide_eq_true rfl
      rw [hzz] at hby
      have hbb : (b == b) = true := by cases b <;> rfl
      clear hzz o9 i10 o10
      go_wp2_with fail
      refine hby.mono ?_
      rintro e11 x3 ⟨rfl, rfl⟩
      go_wp2_with fail
      go_ret
      exact ⟨rfl, b01.trans (b10.mono b01.size)⟩
end
end Go.Proofs.Ytbippmbcgkicaaa.Sto
