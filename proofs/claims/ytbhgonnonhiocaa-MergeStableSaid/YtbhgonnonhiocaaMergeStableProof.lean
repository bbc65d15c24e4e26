/-
  The law MergeStable of package dominolaw14 returns true whatever numbers come in: of records whose Keys they make, sorted, of two neither of which stands ahead of the other the one that came first stands first.
-/
import Derived.Test.YtbhgonnonhiocaaRows
import Derived.WalkKit
import Derived.ProofKit
import Derived.OpenShut
import Derived.ShutString
import Derived.ChangeOld
import Derived.Below
import Derived.Test.YtbhgonnonhiocaaB7
import Derived.Test.YtbhgonnonhiocaaB5
namespace Go.Proofs.Ytbhgonnonhiocaa.mergeStable
open Go.ChangeShapes Go.WideShapes Go.ChangeAt Go.RowKit
open Go.ChangeMaps (open_string shut_string)
open Go.Shelf Go.Proofs.Ytbhgonnonhiocaa Mem Held Ct Rc Rs Sl Mg
theorem own : ownKnob Try.prog.godebug = none := by kernel_rfl
theorem laidOut : laidOutB Try.prog = true := by kernel_rfl
def IsRow (k : IntKind) (w : World) (a : Option Addr) (len cap : Nat) (zs : List Int) : Prop :=
  (a = none ∧ len = 0 ∧ cap = 0 ∧ zs = []) ∨
  ∃ x, a = some x ∧ len ≤ cap ∧ cap ≤ maxLen ∧ zs.length = cap ∧ (∀ i, i < zs.length → w.cell? (x.add i) = some (.int k (zs.getD i 0))) ∧ ∀ n ∈ zs, (Lit.int k n).wf = true
attribute [local irreducible] wpList wpListIn Calls
theorem stable_pair (seq : Bool) {L : List R} (hv : L.Pairwise (fun a b => a.v < b.v)) {p : Nat} (hp : p + 1 < L.length) :
    lead seq ((sortR seq L).getD (p + 1) R0) ((sortR seq L).getD p R0) = false ∧ (tie seq ((sortR seq L).getD p R0) ((sortR seq L).getD (p + 1) R0) = true → ((sortR seq L).getD p R0).v < ((sortR seq L).getD (p + 1) R0).v) := by
  have hlen := sortR_length seq L
  refine ⟨(srt_iff seq _).1 (sortR_sorts seq L) p (by omega), fun ht => ?_⟩
  have hties := sortR_ties seq L ((sortR seq L).getD p R0)
  generalize sortR seq L = X at *
  obtain ⟨A, a, b, B, rfl, rfl⟩ := split2 p X (by omega)
  have ga : (A ++ a :: b :: B).getD A.length R0 = a := by simp [List.getD_eq_getElem?_getD]
  have gb : (A ++ a :: b :: B).getD (A.length + 1) R0 = b := by
    rw [List.getD_eq_getElem?_getD, List.getElem?_append_right (by omega), show A.length + 1 - A.length = 1 by omega]; rfl
  rw [gb, ga] at ht ⊢
  rw [ga] at hties
  have hs : [a, b].Sublist (A ++ a :: b :: B) := by
    refine List.Sublist.trans ?_ (List.sublist_append_right A _)
    exact List.Sublist.cons_cons a (List.Sublist.cons_cons b (List.nil_sublist B))
  have hf := hs.filter (tie seq a)
  rw [List.filter_cons_of_pos (tie_refl seq a), List.filter_cons_of_pos ht, List.filter_nil, hties] at hf
  have hp := hv.sublist (hf.trans List.filter_sublist)
  simpa using hp
def keyOf (z : Int) : Int := IntKind.i64.wrap ((IntKind.u64.wrap z).tmod 4)
def recOf (zs : List Int) (i : Nat) : R := ⟨false, keyOf (zs.getD i 0), i, -i⟩
def recsOf (zs : List Int) (n : Nat) : List R := (List.range n).map (recOf zs)
theorem recsOf_succ (zs : List Int) (n : Nat) : recsOf zs (n + 1) = recsOf zs n ++ [recOf zs n] := by simp [recsOf, List.range_succ]
theorem recsOf_length (zs : List Int) (n : Nat) : (recsOf zs n).length = n := by simp [recsOf]
theorem recsOf_wf (zs : List Int) (n : Nat) (hn : n ≤ 100) : ∀ r ∈ recsOf zs n, r.wf := fun r hr => by
  obtain ⟨i, hi, rfl⟩ := List.mem_map.1 hr
  have := List.mem_range.1 hi
  refine ⟨i64_wf _, ?_, ?_⟩ <;> simp [recOf, Lit.wf, IntKind.min, IntKind.max, IntKind.signed, IntKind.bits] <;> omega
theorem recsOf_alive (zs : List Int) (n : Nat) : ∀ r ∈ recsOf zs n, r.d = false := fun r hr => by
  obtain ⟨i, hi, rfl⟩ := List.mem_map.1 hr
  rfl
theorem recsOf_rise (zs : List Int) (n : Nat) : (recsOf zs n).Pairwise (fun a b => a.v < b.v) := by
  unfold recsOf
  rw [List.pairwise_map]
  refine List.Pairwise.imp ?_ List.pairwise_lt_range
  intro a b h
  simp only [recOf]
  omega
theorem pair_says (zs : List Int) (n p : Nat) (hp : p + 1 < n) :
    ¬ ((sortR false (recsOf zs n)).getD (p + 1) R0).k < ((sortR false (recsOf zs n)).getD p R0).k ∧ (((sortR false (recsOf zs n)).getD (p + 1) R0).k = ((sortR false (recsOf zs n)).getD p R0).k → ((sortR false (recsOf zs n)).getD p R0).v < ((sortR false (recsOf zs n)).getD (p + 1) R0).v) := by
  obtain ⟨h1, h2⟩ := stable_pair false (recsOf_rise zs n) (p := p) (by rw [recsOf_length]; exact hp)
  have hd : ∀ q, q < n → ((sortR false (recsOf zs n)).getD q R0).d = false := fun q hq =>
    recsOf_alive zs n _ ((sortR_perm false (recsOf zs n)).mem_iff.1 (getD_mem (by rw [sortR_length, recsOf_length]; exact hq)))
  have d0 := hd p (by omega)
  have d1 := hd (p + 1) hp
  generalize (sortR false (recsOf zs n)).getD p R0 = x at *
  generalize (sortR false (recsOf zs n)).getD (p + 1) R0 = y at *
  unfold lead ahd at h1
  rw [d0, d1] at h1
  simp at h1
  refine ⟨by omega, fun e => h2 ?_⟩
  simp [tie, lead, ahd, d0, d1, e]
set_option maxRecDepth 100000 in
set_option maxHeartbeats 16000000 in
theorem start (A : Option Addr) (n c : Nat) (zs : List Int) (u : World) (h : Ints u .i64 u.heap.size A n zs) :
    Calls Try.prog 7 #[.slice A n c] u fun e u' => e = .returned (.bool true) ∧ Below u.heap.size u u' := by
  go_enter Try.func7, Try.ntmps7
  by_cases h1 : n > 60
  · have h1' : (n : Int) > 60 := by omega
    go_wp2_with fail
    refine (awake14_any u).mono ?_
    rintro e w1 ⟨rfl, b1⟩
    go_wp2_with fail
    go_ret
    exact ⟨rfl, b1⟩
  · have h1' : ¬ (n : Int) > 60 := by omega
    have hn : n ≤ 60 := by omega
    go_wp2_with fail
    go_loopw [3, 4] (fun lv iv wr => ∃ i : Nat, i ≤ n ∧ iv = .int .i64 i ∧ OwnL kRec 26 wr u.heap.size lv (recsOf zs i) ∧ Below u.heap.size u wr) (fun _ i _ => n - (intOf i).toNat)
    case atStart => exact ⟨0, by omega, rfl, OwnL.nil _ _ _ _, Below.refl _ _⟩
    case round =>
      obtain ⟨i, hi, rfl, ho, hst⟩ := hrel
      by_cases hlt : i < n
      · have hlt' : (i : Int) < (n : Int) := by omega
        obtain ⟨b, off, rfl, hb, hc⟩ := (h.below hst).at_ hlt
        have hR : recOf zs i = ⟨false, keyOf (zs.getD i 0), i, -i⟩ := rfl
        have HNX := Lib.hid (recsOf_succ zs i)
        have HLN := Lib.hid (recsOf_length zs i)
        have hwf := recsOf_wf zs (i + 1) (by omega) (recOf zs i) (by rw [recsOf_succ]; simp)
        rw [hR] at hwf HNX
        have hk : IntKind.i64.wrap ((IntKind.u64.wrap (zs.getD i 0)).tmod 4) = keyOf (zs.getD i 0) := rfl
        generalize zs.getD i 0 = z at hc hwf HNX hk
        generalize keyOf z = ky at hwf HNX hk
        obtain ⟨q, hq⟩ : ∃ q, IntKind.u64.wrap z = q := ⟨_, rfl⟩
        rw [hq] at hk
        obtain ⟨r, hr⟩ : ∃ r, q.tmod 4 = r := ⟨_, rfl⟩
        rw [hr] at hk
        have hng : IntKind.i64.wrap (-(i : Int)) = -(i : Int) := by rw [IntKind.wrap_i64]; omega
        have hrm := fun W => Held.run_rem (P := Try.prog) 35 .u64 (a := q) (b := 4) (r := r) (by omega) hr W
        have HQ := Lib.hid hq
        have HK := Lib.hid hk
        have HG := Lib.hid hng
        clear hR hq hr hk hng
        go_wp2_with (first
          | (refine Held.wpList_run (w := wr) rfl (v := .int .u64 q) (Held.y_convert (S := fun _ => True) rfl rfl (by kernel_rfl) Try.underlying35 HQ.out _ trivial) ?_)
          | (refine Held.wpList_run (w := wr) rfl (v := .int .u64 r) (Bi.y_rem (S := fun _ => True) q 4 rfl rfl rfl hrm _ trivial) ?_)
          | (refine Held.wpList_run (w := wr) rfl (v := .int .i64 ky) (Held.y_convert (S := fun _ => True) rfl rfl (by kernel_rfl) Try.underlying2 HK.out _ trivial) ?_)
          | (refine Held.wpList_run (w := wr) rfl (v := .int .i64 (-(i : Int))) (Bi.y_neg_ (S := fun _ => True) rfl rfl HG.out _ trivial) ?_)
          | (refine wpList_build_blk rfl 26 _ rfl #[.bool false, .int .i64 ky, .int .i64 (i : Int), .int .i64 (-(i : Int))] (by kernel_rfl) ?_)
          | (refine wpList_build_recL (w := wr) rfl _ rfl ⟨false, ky, i, -i⟩ rfl hwf ?_; intro w1 l1 g1; have o1 := OwnL.kept ho g1 (by cases u3.ownBlock <;> simp); have b1 : Below u.heap.size u w1 := hst.grown g1 hst.size (by simp))
          | (at_builtin; refine wpList_append_all (k := kRec) (w := w1) rfl _ _ 22 26 rfl Try.underlying22 _ 32 info_kRec rfl u.heap.size w1.heap.size 1 1 (some ⟨wr.heap.size, 0, none⟩) u3 _ [⟨false, ky, i, -i⟩] rfl rfl o1 l1 (by rw [HLN.out]; omega) (by omega) b1.size ?_; intro v2 w2 o2 g2 m2))
        have b2 : Below u.heap.size u w2 := b1.grown g2 b1.size (fun r e => (OwnL.lt o1 r e).1)
        rw [← HNX.out] at o2
        go_roundw
        case rel => exact ⟨i + 1, by omega, by go_num, o2, b2⟩
        case measure => simp [intOf]; omega
      · obtain rfl : i = n := by omega
        have HLN := Lib.hid (recsOf_length zs i)
        have HW := Lib.hid (recsOf_wf zs i (by omega))
        have HLS := Lib.hid (show (sortR false (recsOf zs i)).length = i by rw [sortR_length, recsOf_length])
        have HWS := Lib.hid (show ∀ r ∈ sortR false (recsOf zs i), r.wf from fun r hr => HW.out r ((sortR_perm false _).mem_iff.1 hr))
        have HP := Lib.hid (pair_says zs i)
        generalize recsOf zs i = L at ho HLN HW HLS HWS HP
        obtain ⟨A', n', c', rfl, hn', _⟩ := OwnL.form2 ho
        obtain rfl : i = n' := hn'.out.symm.trans HLN.out |>.symm
        go_wp2_with fail
        refine (sort_any wr.heap.size A' i c' L false wr (OwnL.lst ho HW.out) (Nat.le_refl _) (by omega)).mono ?_
        rintro e w1 ⟨v, rfl, o1, b1⟩
        obtain ⟨A2, n2, c2, rfl, hn2, _⟩ := OwnL.form2 o1
        obtain rfl : i = n2 := hn2.out.symm.trans HLS.out |>.symm
        have l1 := OwnL.lst o1 HWS.out
        generalize sortR false L = S at HLS HWS HP l1
        have b1 := hst.trans (b1.mono hst.size)
        clear hst ho o1 hn' hn2
        go_wp2_with fail
        refine (awake14_any w1).mono ?_
        rintro e w2 ⟨rfl, b2⟩
        have l2 := (Lst.below l1 b2).more b2.size
        have b2 := b1.trans (b2.mono b1.size)
        clear b1 l1
        go_wp2_with fail
        go_loopw [6] (fun iv wr => ∃ p : Nat, (p + 1 ≤ i ∨ p = 0) ∧ iv = .int .i64 ((p + 1 : Nat) : Int) ∧ Below w2.heap.size w2 wr) (fun k _ => i - (intOf k).toNat)
        case atStart => exact ⟨0, by omega, rfl, Below.refl _ _⟩
        case round =>
          obtain ⟨p, hp0, rfl, hst⟩ := hrel
          by_cases hp2 : p + 1 < i
          · have hp1 : p < i := by omega
            have hlt' : ((p + 1 : Nat) : Int) < (i : Int) := by omega
            have hr := Lst.below l2 hst
            obtain ⟨b, off, rfl, hb, hx⟩ := hr.at_ hp1
            obtain ⟨b', off', e1, _, hy⟩ := hr.at_ hp2
            injection e1 with e1
            injection e1 with e1 e2
            subst e1
            subst e2
            have hx : wr.rangeAt b (off + p * 4) (S.getD p R0).cells := hx
            have hy : wr.rangeAt b (off + (p + 1) * 4) (S.getD (p + 1) R0).cells := hy
            have hb := Nat.lt_of_lt_of_le hb hst.size
            obtain ⟨HNL, HT⟩ := HP.out p hp2
            have HK1 := Lib.hid (show IntKind.i64.wrap (((p + 1 : Nat) : Int) - 1) = (p : Int) by rw [IntKind.wrap_i64]; omega)
            have HP2 := Lib.hid (show IntKind.i64.wrap (((p + 1 : Nat) : Int) + 1) = ((p + 1 + 1 : Nat) : Int) by rw [IntKind.wrap_i64]; omega)
            generalize S.getD p R0 = x at hx HNL HT
            generalize S.getD (p + 1) R0 = y at hy HNL HT
            have HNL := Lib.hid (show decide (y.k < x.k) = false by simpa using HNL)
            have HT := Lib.hid HT
            clear hr
            go_wp2_with fail
            refine wp_region_held (S := fun W => Below wr.heap.size wr W) (by kernel_rfl) ?_
            change wpAnyH _ _ _ _ _ _ _ _ wr.drew
            have c0_0 := (Below.refl wr.heap.size wr).drew
            refine Held.tk (v := .slice (some ⟨b, off, none⟩) i c2) 0 (some 48) rfl (Held.y_move rfl rfl) c0_0 ?_
            simp only [Act.put, Z1, Z2, Z3]
            refine Held.tk (v := .int .i64 ((p + 1 : Nat) : Int)) 1 (some 49) rfl (Held.y_move rfl rfl) c0_0 ?_
            simp only [Act.put, Z1, Z2, Z3]
            refine Held.tk (v := .pointer (some ⟨b, off + (p + 1) * 4, none⟩)) 2 (some 50) rfl (Held.y_addr rfl rfl rfl (run_addr_of 22 26 b off i c2 (p + 1) 4 .i64 Try.underlying22 (by kernel_rfl) hp2)) c0_0 ?_
            simp only [Act.put, Z1, Z2, Z3]
            refine Held.tk (v := .pointer (some ⟨b, off + (p + 1) * 4 + 1, none⟩)) 3 (some 51) rfl (Held.y_field (k := 1) (s := 0) rfl rfl Try.underlying26 rfl (by kernel_rfl) rfl) c0_0 ?_
            simp only [Act.put, Z1, Z2, Z3]
            refine Held.tk (v := .int .i64 y.k) 4 (some 52) rfl (Held.y_load rfl rfl (by kernel_rfl) (fun W hW => range_below hy hW hb 1 _ rfl)) c0_0 ?_
            simp only [Act.put, Z1, Z2, Z3]
            refine Held.tk (v := .slice (some ⟨b, off, none⟩) i c2) 5 (some 53) rfl (Held.y_move rfl rfl) c0_0 ?_
            simp only [Act.put, Z1, Z2, Z3]
            refine Held.tk (v := .int .i64 ((p + 1 : Nat) : Int)) 6 (some 54) rfl (Held.y_move rfl rfl) c0_0 ?_
            simp only [Act.put, Z1, Z2, Z3]
            refine Held.tk (v := .int .i64 (p : Int)) 7 (some 55) rfl (Held.y_int rfl rfl rfl (Held.run_sub 3 .i64 HK1.out)) c0_0 ?_
            simp only [Act.put, Z1, Z2, Z3]
            refine Held.tk (v := .pointer (some ⟨b, off + p * 4, none⟩)) 8 (some 56) rfl (Held.y_addr rfl rfl rfl (run_addr_of 22 26 b off i c2 p 4 .i64 Try.underlying22 (by kernel_rfl) hp1)) c0_0 ?_
            simp only [Act.put, Z1, Z2, Z3]
            refine Held.tk (v := .pointer (some ⟨b, off + p * 4 + 1, none⟩)) 9 (some 57) rfl (Held.y_field (k := 1) (s := 0) rfl rfl Try.underlying26 rfl (by kernel_rfl) rfl) c0_0 ?_
            simp only [Act.put, Z1, Z2, Z3]
            refine Held.tk (v := .int .i64 x.k) 10 (some 58) rfl (Held.y_load rfl rfl (by kernel_rfl) (fun W hW => range_below hx hW hb 1 _ rfl)) c0_0 ?_
            simp only [Act.put, Z1, Z2, Z3]
            refine Held.tk (v := .bool false) 11 (some 59) rfl (Held.y_lss rfl rfl rfl HNL.out) c0_0 ?_
            simp only [Act.put, Z1, Z2, Z3]
            refine Held.tk (v := .bool false) 12 (some 60) rfl (Held.y_move rfl rfl) c0_0 ?_
            simp only [Act.put, Z1, Z2, Z3]
            refine Held.tk (v := .slice (some ⟨b, off, none⟩) i c2) 13 (some 61) rfl (Held.y_move rfl rfl) c0_0 ?_
            simp only [Act.put, Z1, Z2, Z3]
            refine Held.tk (v := .int .i64 ((p + 1 : Nat) : Int)) 14 (some 62) rfl (Held.y_move rfl rfl) c0_0 ?_
            simp only [Act.put, Z1, Z2, Z3]
            refine Held.tk (v := .pointer (some ⟨b, off + (p + 1) * 4, none⟩)) 15 (some 63) rfl (Held.y_addr rfl rfl rfl (run_addr_of 22 26 b off i c2 (p + 1) 4 .i64 Try.underlying22 (by kernel_rfl) hp2)) c0_0 ?_
            simp only [Act.put, Z1, Z2, Z3]
            refine Held.tk (v := .pointer (some ⟨b, off + (p + 1) * 4 + 1, none⟩)) 16 (some 64) rfl (Held.y_field (k := 1) (s := 0) rfl rfl Try.underlying26 rfl (by kernel_rfl) rfl) c0_0 ?_
            simp only [Act.put, Z1, Z2, Z3]
            refine Held.tk (v := .int .i64 y.k) 17 (some 65) rfl (Held.y_load rfl rfl (by kernel_rfl) (fun W hW => range_below hy hW hb 1 _ rfl)) c0_0 ?_
            simp only [Act.put, Z1, Z2, Z3]
            refine Held.tk (v := .slice (some ⟨b, off, none⟩) i c2) 18 (some 66) rfl (Held.y_move rfl rfl) c0_0 ?_
            simp only [Act.put, Z1, Z2, Z3]
            refine Held.tk (v := .int .i64 ((p + 1 : Nat) : Int)) 19 (some 67) rfl (Held.y_move rfl rfl) c0_0 ?_
            simp only [Act.put, Z1, Z2, Z3]
            refine Held.tk (v := .int .i64 (p : Int)) 20 (some 68) rfl (Held.y_int rfl rfl rfl (Held.run_sub 3 .i64 HK1.out)) c0_0 ?_
            simp only [Act.put, Z1, Z2, Z3]
            refine Held.tk (v := .pointer (some ⟨b, off + p * 4, none⟩)) 21 (some 69) rfl (Held.y_addr rfl rfl rfl (run_addr_of 22 26 b off i c2 p 4 .i64 Try.underlying22 (by kernel_rfl) hp1)) c0_0 ?_
            simp only [Act.put, Z1, Z2, Z3]
            refine Held.tk (v := .pointer (some ⟨b, off + p * 4 + 1, none⟩)) 22 (some 70) rfl (Held.y_field (k := 1) (s := 0) rfl rfl Try.underlying26 rfl (by kernel_rfl) rfl) c0_0 ?_
            simp only [Act.put, Z1, Z2, Z3]
            refine Held.tk (v := .int .i64 x.k) 23 (some 71) rfl (Held.y_load rfl rfl (by kernel_rfl) (fun W hW => range_below hx hW hb 1 _ rfl)) c0_0 ?_
            simp only [Act.put, Z1, Z2, Z3]
            by_cases hk : y.k = x.k
            · have hkd : decide (y.k = x.k) = true := by simpa using hk
              have hvl : decide (y.v < x.v) = false := by have := HT.out hk; simp; omega
              refine Held.tk (v := .bool true) 24 (some 72) rfl (Held.y_eqI rfl rfl rfl hkd) c0_0 ?_
              simp only [Act.put, Z1, Z2, Z3]
              refine Held.tk (v := .bool true) 25 (some 73) rfl (Held.y_move rfl rfl) c0_0 ?_
              simp only [Act.put, Z1, Z2, Z3]
              refine Held.tk (v := .slice (some ⟨b, off, none⟩) i c2) 26 (some 74) rfl (Held.y_move rfl rfl) c0_0 ?_
              simp only [Act.put, Z1, Z2, Z3]
              refine Held.tk (v := .int .i64 ((p + 1 : Nat) : Int)) 27 (some 75) rfl (Held.y_move rfl rfl) c0_0 ?_
              simp only [Act.put, Z1, Z2, Z3]
              refine Held.tk (v := .pointer (some ⟨b, off + (p + 1) * 4, none⟩)) 28 (some 76) rfl (Held.y_addr rfl rfl rfl (run_addr_of 22 26 b off i c2 (p + 1) 4 .i64 Try.underlying22 (by kernel_rfl) hp2)) c0_0 ?_
              simp only [Act.put, Z1, Z2, Z3]
              refine Held.tk (v := .pointer (some ⟨b, off + (p + 1) * 4 + 2, none⟩)) 29 (some 77) rfl (Held.y_field (k := 2) (s := 0) rfl rfl Try.underlying26 rfl (by kernel_rfl) rfl) c0_0 ?_
              simp only [Act.put, Z1, Z2, Z3]
              refine Held.tk (v := .int .i64 y.v) 30 (some 78) rfl (Held.y_load rfl rfl (by kernel_rfl) (fun W hW => range_below hy hW hb 2 _ rfl)) c0_0 ?_
              simp only [Act.put, Z1, Z2, Z3]
              refine Held.tk (v := .slice (some ⟨b, off, none⟩) i c2) 31 (some 79) rfl (Held.y_move rfl rfl) c0_0 ?_
              simp only [Act.put, Z1, Z2, Z3]
              refine Held.tk (v := .int .i64 ((p + 1 : Nat) : Int)) 32 (some 80) rfl (Held.y_move rfl rfl) c0_0 ?_
              simp only [Act.put, Z1, Z2, Z3]
              refine Held.tk (v := .int .i64 (p : Int)) 33 (some 81) rfl (Held.y_int rfl rfl rfl (Held.run_sub 3 .i64 HK1.out)) c0_0 ?_
              simp only [Act.put, Z1, Z2, Z3]
              refine Held.tk (v := .pointer (some ⟨b, off + p * 4, none⟩)) 34 (some 82) rfl (Held.y_addr rfl rfl rfl (run_addr_of 22 26 b off i c2 p 4 .i64 Try.underlying22 (by kernel_rfl) hp1)) c0_0 ?_
              simp only [Act.put, Z1, Z2, Z3]
              refine Held.tk (v := .pointer (some ⟨b, off + p * 4 + 2, none⟩)) 35 (some 83) rfl (Held.y_field (k := 2) (s := 0) rfl rfl Try.underlying26 rfl (by kernel_rfl) rfl) c0_0 ?_
              simp only [Act.put, Z1, Z2, Z3]
              refine Held.tk (v := .int .i64 x.v) 36 (some 84) rfl (Held.y_load rfl rfl (by kernel_rfl) (fun W hW => range_below hx hW hb 2 _ rfl)) c0_0 ?_
              simp only [Act.put, Z1, Z2, Z3]
              refine Held.tk (v := .bool false) 37 (some 85) rfl (Held.y_lss rfl rfl rfl hvl) c0_0 ?_
              simp only [Act.put, Z1, Z2, Z3]
              refine Held.tk (v := .bool false) 38 (some 86) rfl (Held.y_pick rfl rfl rfl) c0_0 ?_
              simp only [Act.put, Z1, Z2, Z3]
              refine Held.tk (v := .bool false) 39 (some 87) rfl (Held.y_pickF rfl rfl rfl) c0_0 ?_
              simp only [Act.put, Z1, Z2, Z3]
              refine wpAnyH_done (by kernel_rfl) ?_ _
              have dz := hst.trans (c0_0.mono hst.size)
              generalize wr.drew = wd at dz ⊢
              go_wp2_with (refine Held.wpList_run (w := wd) rfl (v := .int .i64 ((p + 1 + 1 : Nat) : Int)) (Held.y_int (S := fun _ => True) rfl rfl rfl (Held.run_add 3 .i64 HP2.out) _ trivial) ?_)
              go_roundw
              case rel => exact ⟨p + 1, by omega, rfl, dz⟩
              case measure => simp [intOf]; omega
            · have hkd : decide (y.k = x.k) = false := by simpa using hk
              refine Held.tk (v := .bool false) 24 (some 72) rfl (Held.y_eqI rfl rfl rfl hkd) c0_0 ?_
              simp only [Act.put, Z1, Z2, Z3]
              refine Held.tk (v := .bool false) 25 (some 73) rfl (Held.y_move rfl rfl) c0_0 ?_
              simp only [Act.put, Z1, Z2, Z3]
              refine Held.skip 26 (some 74) rfl rfl (by kernel_rfl) (by kernel_rfl) (by kernel_rfl) (fun _ _ _ h => h) rfl c0_0 ?_
              simp only [Act.put, Z1, Z2, Z3]
              refine Held.skip 27 (some 75) rfl rfl (by kernel_rfl) (by kernel_rfl) (by kernel_rfl) (fun _ _ _ h => h) rfl c0_0 ?_
              simp only [Act.put, Z1, Z2, Z3]
              refine Held.skip 28 (some 76) rfl rfl (by kernel_rfl) (by kernel_rfl) (by kernel_rfl) (fun _ _ _ h => h) rfl c0_0 ?_
              simp only [Act.put, Z1, Z2, Z3]
              refine Held.skip 29 (some 77) rfl rfl (by kernel_rfl) (by kernel_rfl) (by kernel_rfl) (fun _ _ _ h => h) rfl c0_0 ?_
              simp only [Act.put, Z1, Z2, Z3]
              refine Held.skip 30 (some 78) rfl rfl (by kernel_rfl) (by kernel_rfl) (by kernel_rfl) (fun _ _ _ h => h) rfl c0_0 ?_
              simp only [Act.put, Z1, Z2, Z3]
              refine Held.skip 31 (some 79) rfl rfl (by kernel_rfl) (by kernel_rfl) (by kernel_rfl) (fun _ _ _ h => h) rfl c0_0 ?_
              simp only [Act.put, Z1, Z2, Z3]
              refine Held.skip 32 (some 80) rfl rfl (by kernel_rfl) (by kernel_rfl) (by kernel_rfl) (fun _ _ _ h => h) rfl c0_0 ?_
              simp only [Act.put, Z1, Z2, Z3]
              refine Held.skip 33 (some 81) rfl rfl (by kernel_rfl) (by kernel_rfl) (by kernel_rfl) (fun _ _ _ h => h) rfl c0_0 ?_
              simp only [Act.put, Z1, Z2, Z3]
              refine Held.skip 34 (some 82) rfl rfl (by kernel_rfl) (by kernel_rfl) (by kernel_rfl) (fun _ _ _ h => h) rfl c0_0 ?_
              simp only [Act.put, Z1, Z2, Z3]
              refine Held.skip 35 (some 83) rfl rfl (by kernel_rfl) (by kernel_rfl) (by kernel_rfl) (fun _ _ _ h => h) rfl c0_0 ?_
              simp only [Act.put, Z1, Z2, Z3]
              refine Held.skip 36 (some 84) rfl rfl (by kernel_rfl) (by kernel_rfl) (by kernel_rfl) (fun _ _ _ h => h) rfl c0_0 ?_
              simp only [Act.put, Z1, Z2, Z3]
              refine Held.skip 37 (some 85) rfl rfl (by kernel_rfl) (by kernel_rfl) (by kernel_rfl) (fun _ _ _ h => h) rfl c0_0 ?_
              simp only [Act.put, Z1, Z2, Z3]
              refine Held.tk (v := .bool false) 38 (some 86) rfl (Held.y_pickF rfl rfl rfl) c0_0 ?_
              simp only [Act.put, Z1, Z2, Z3]
              refine Held.tk (v := .bool false) 39 (some 87) rfl (Held.y_pickF rfl rfl rfl) c0_0 ?_
              simp only [Act.put, Z1, Z2, Z3]
              refine wpAnyH_done (by kernel_rfl) ?_ _
              have dz := hst.trans (c0_0.mono hst.size)
              generalize wr.drew = wd at dz ⊢
              go_wp2_with (refine Held.wpList_run (w := wd) rfl (v := .int .i64 ((p + 1 + 1 : Nat) : Int)) (Held.y_int (S := fun _ => True) rfl rfl rfl (Held.run_add 3 .i64 HP2.out) _ trivial) ?_)
              go_roundw
              case rel => exact ⟨p + 1, by omega, rfl, dz⟩
              case measure => simp [intOf]; omega
          · have hnlt : ¬ ((p + 1 : Nat) : Int) < (i : Int) := by omega
            go_wp2_with fail
            go_ret
            exact ⟨rfl, b2.trans (hst.mono b2.size)⟩
theorem walk (a0 : Option Addr) (len0 cap0 : Nat) (z0 : List Int) (w : World) (w0 : IsRow .i64 w a0 len0 cap0 z0) :
    Calls Try.prog 7 #[.slice a0 len0 cap0] w fun e w' => e = .returned (.bool true) ∧ Below w.heap.size w w' := by
  obtain ⟨h, hl, hm⟩ := ints_of_row w0
  exact start a0 len0 cap0 _ w h
set_option maxRecDepth 100000 in
theorem lifted (os : Os) (started : os.Started) (H : Type) (enc : TypeId × Value → H) :
    ReturnsInHanded {} Try.checked os 7 .any (Rows.mergeStableSpec.pre6 enc Try.prog Try.f7 Rows.mergeStableRow.domain false) (Rows.mergeStableSpec.post enc Try.prog Try.f7 false true false false) := by
  refine returnsInHanded_of_change (C := Try.checked) own started (by kernel_rfl) Try.func7
    (ChangeSpec.witness6 (enc := enc) (C := Try.checked) false ⟨#[], #[.slice none 0 0], []⟩ 8 (by kernel_rfl) (by kernel_rfl) (by kernel_rfl) (by kernel_rfl)) ?_
  intro W base args ds gs before hval0 hW hcnd _
  have hval : ∀ (j : Nat) t v, Try.f7.params[j]? = some t → args[j]? = some v → Value.okWide Try.prog W .any base t v := hval0
  have hW' := hW
  obtain ⟨p, q, hA0, hV, rfl, hfz, hnd⟩ := hW
  have hA : DataW.TrodAll enc Try.prog W 0 (fun _ => true) true Try.f7.params.toList args.toList ds p := hA0
  rw [Try.params7] at hA hval
  obtain ⟨v0, vs0, d0, ds0, p0, q0, hargs, rfl, rfl, h0, r0⟩ := trodAll_cons hA
  obtain ⟨rfl, rfl, rfl⟩ := trodAll_nil r0
  obtain rfl : args = #[v0] := by cases args; simp_all
  obtain ⟨rfl, rfl⟩ := trodVars_none hV
  obtain ⟨a0, len0, cap0, rfl⟩ := okWide_slice Try.underlying38 (hval 0 38 v0 rfl rfl)
  have k0 := h0
  have lt0 : ∀ x ∈ p0, x.block < W.heap.size := by obtain ⟨m, hm⟩ := k0; exact DataW.trod_lt m _ _ _ hm
  obtain ⟨z0, w0⟩ : ∃ zs, IsRow .i64 W a0 len0 cap0 zs := by
    obtain ⟨fuel, hf⟩ := h0
    rcases open_ints Try.underlying38 Try.underlying3 (by kernel_rfl) hf with ⟨hcs, _⟩ | ⟨x, l, c, zs, hcs, _, hl, hm, hz, _, hcell, hwz⟩
    · simp [Value.cells] at hcs
      obtain ⟨rfl, rfl, rfl⟩ := hcs
      exact ⟨[], .inl ⟨rfl, rfl, rfl, rfl⟩⟩
    · simp [Value.cells] at hcs
      obtain ⟨rfl, rfl, rfl⟩ := hcs
      exact ⟨zs, .inr ⟨_, rfl, hl, hm, by simpa using hz, hcell, hwz⟩⟩
  clear hA0 hval0
  refine (walk a0 len0 cap0 z0 W w0).mono fun e W' ⟨he, bel⟩ => ?_
  subst he
  exact ⟨_, rfl, _, _, _, [], _, [], hW', trodAll_mk1 (shut_bool Try.underlying4 _), (trodAll_cons_mk (Below.trod laidOut (by kernel_rfl) (of_decide_eq_true (by kernel_rfl)) k0 bel lt0) trodAll_mk0), rfl, bel.frame _, fun h => by cases h⟩
theorem over : Rows.mergeStableRow.holds Try.pinned (OpenSpec.ofChange Rows.mergeStableSpec) :=
  OpenClaim.holds_of_wide 7 Try.f7 rfl rfl rfl rfl rfl rfl rfl ⟨rfl, rfl, rfl, rfl, rfl⟩ rfl rfl rfl rfl rfl (by kernel_rfl) Try.func7 (by kernel_rfl)
    (of_decide_eq_true (by kernel_rfl)) (by unfold Func.isWrapper; first | (rw [if_pos (by decide +kernel)]; kernel_rfl) | (rw [if_neg (by decide +kernel)]; exact ⟨rfl, rfl⟩))
    (fun os started H enc _ => lifted os started H enc)
theorem proved : Rows.MergeStableSaid :=
  over
#print axioms proved
end Go.Proofs.Ytbhgonnonhiocaa.mergeStable
