/-
  The law ChainPlaces of package dominolaw15 returns true for every list of keys, of values, of other values, and of truths: as many records come out as go in, and what comes out where hangs on where keys change alone.
-/
import Derived.Test.YtkiempdpfmolfaaRows
import Derived.WalkKit
import Derived.ProofKit
import Derived.OpenShut
import Derived.ShutString
import Derived.ChangeOld
import Derived.Below
import Derived.Test.YtkiempdpfmolfaaB9
import Derived.Test.YtkiempdpfmolfaaB3
namespace Go.Proofs.Ytkiempdpfmolfaa.chainPlaces
open Go.ChangeShapes Go.WideShapes Go.ChangeAt Go.RowKit
open Go.ChangeMaps (open_string shut_string)
open Go.Shelf Go.Proofs.Ytkiempdpfmolfaa Mem Held Ct Rc Rs Sl Vm Mg Cn
theorem own : ownKnob Try.prog.godebug = none := by kernel_rfl
theorem laidOut : laidOutB Try.prog = true := by kernel_rfl
def IsRow (k : IntKind) (w : World) (a : Option Addr) (len cap : Nat) (zs : List Int) : Prop :=
  (a = none ∧ len = 0 ∧ cap = 0 ∧ zs = []) ∨
  ∃ x, a = some x ∧ len ≤ cap ∧ cap ≤ maxLen ∧ zs.length = cap ∧ (∀ i, i < zs.length → w.cell? (x.add i) = some (.int k (zs.getD i 0))) ∧ ∀ n ∈ zs, (Lit.int k n).wf = true
attribute [local irreducible] wpList wpListIn Calls
def atV (zs : List Int) (i : Nat) : Int := if i < zs.length then zs.getD i 0 else 1
def mkP (ks vs : List Int) (bs : List Bool) (i : Nat) : R := if i < bs.length ∧ bs.getD i false = true then RD else ⟨false, IntKind.u64.wrap (ks.getD i 0) % 3, atV vs i, (i : Int)⟩
def mkL (ks vs : List Int) (bs : List Bool) (n : Nat) : List R := (List.range n).map (mkP ks vs bs)
theorem mkL_snoc (ks vs : List Int) (bs : List Bool) (n : Nat) : mkL ks vs bs (n + 1) = mkL ks vs bs n ++ [mkP ks vs bs n] := by
  unfold mkL
  rw [List.range_succ, List.map_append]
  rfl
theorem mkL_length (ks vs : List Int) (bs : List Bool) (n : Nat) : (mkL ks vs bs n).length = n := by simp [mkL]
theorem at_wf {zs : List Int} (h : ∀ z ∈ zs, (Lit.int .i64 z).wf = true) (i : Nat) : (Lit.int .i64 (atV zs i)).wf = true := by
  unfold atV
  split
  · rename_i hi
    rw [List.getD_eq_getElem?_getD, List.getElem?_eq_getElem hi]
    exact h _ (List.getElem_mem _)
  · rfl
theorem small_wf {z : Int} (h : 0 ≤ z ∧ z ≤ 1000) : (Lit.int .i64 z).wf = true := by
  simp [Lit.wf, IntKind.min, IntKind.max, IntKind.signed, IntKind.bits]
  omega
theorem mk_wf {ks vs : List Int} {bs : List Bool} (hv : ∀ z ∈ vs, (Lit.int .i64 z).wf = true) {i : Nat} (hi : i ≤ 100) : (mkP ks vs bs i).wf := by
  unfold mkP
  split
  · exact wf_dead
  · exact ⟨small_wf (z := IntKind.u64.wrap (ks.getD i 0) % 3) (by omega), at_wf hv i, small_wf (z := (i : Int)) (by omega)⟩
theorem mkL_wf {ks vs : List Int} {bs : List Bool} (hv : ∀ z ∈ vs, (Lit.int .i64 z).wf = true) {n : Nat} (hn : n ≤ 100) : ∀ r ∈ mkL ks vs bs n, r.wf := fun r hr => by
  obtain ⟨i, hi, rfl⟩ := List.mem_map.1 hr
  have := List.mem_range.1 hi
  exact mk_wf hv (by omega)
def Like (a b : R) : Prop := a.d = b.d ∧ a.k = b.k ∧ a.s = b.s
theorem mk_like (ks vs os : List Int) (bs : List Bool) (i : Nat) : Like (mkP ks vs bs i) (mkP ks os bs i) := by
  unfold mkP
  split <;> exact ⟨rfl, rfl, rfl⟩
inductive Alike : List R → List R → Prop
  | nil : Alike [] []
  | cons {a b : R} {l m : List R} : Like a b → Alike l m → Alike (a :: l) (b :: m)
theorem alike_map (ks vs os : List Int) (bs : List Bool) : ∀ is : List Nat, Alike (is.map (mkP ks vs bs)) (is.map (mkP ks os bs))
  | [] => .nil
  | i :: is => .cons (mk_like ks vs os bs i) (alike_map ks vs os bs is)
theorem goes_like {so so' r r' : R} (h : Like so so') (h' : Like r r') : goesB so r = goesB so' r' := by
  unfold goesB
  rw [h.1, h.2.1, h'.1, h'.2.1]
section
variable {F G : Int → Int → Int}
theorem fin_like {so so' : R} (h : Like so so') : Like (finR G so) (finR G so') ∧ (finR G so).s = 0 := by
  unfold finR
  rw [h.1]
  split
  · exact ⟨⟨rfl, rfl, rfl⟩, rfl⟩
  · exact ⟨⟨rfl, h.2.1, rfl⟩, rfl⟩
theorem out_like {so so' r r' : R} (h : Like so so') (h' : Like r r') : Like (outR G so r) (outR G so' r') ∧ (outR G so r).s = 0 := by
  unfold outR
  rw [goes_like h h']
  split
  · exact ⟨⟨rfl, rfl, rfl⟩, rfl⟩
  · exact fin_like h
theorem bare_like {r r' : R} (h : Like r r') : Like (bareR r) (bareR r') := by
  unfold bareR
  rw [h.1]
  split
  · exact ⟨rfl, rfl, rfl⟩
  · exact ⟨rfl, h.2.1, rfl⟩
theorem next_like {so so' r r' : R} (h : Like so so') (h' : Like r r') : Like (nextR F so r) (nextR F so' r') := by
  unfold nextR
  rw [goes_like h h']
  split
  · exact ⟨rfl, h.2.1, rfl⟩
  · exact bare_like h'
theorem outs_like : ∀ {l m : List R}, Alike l m → ∀ {so so' : R}, Like so so' → Like (ends F so l) (ends F so' m) ∧ ∀ i, i < l.length → Like ((outs F G so l).getD i R0) ((outs F G so' m).getD i R0) ∧ ((outs F G so l).getD i R0).s = 0
  | _, _, .nil, so, so', h => ⟨h, fun i hi => absurd hi (by simp)⟩
  | _, _, .cons hab hlm, so, so', h => by
    obtain ⟨h1, h2⟩ := outs_like hlm (next_like (F := F) h hab)
    refine ⟨h1, fun i hi => ?_⟩
    cases i with
    | zero => exact out_like h hab
    | succ i => exact h2 i (by simpa using hi)
end
theorem places_like (ks vs os : List Int) (bs : List Bool) (n : Nat) : Like (ends (fun a v => wrap64 (a + v)) (bareR RD) (mkL ks vs bs n)) (ends (fun a v => wrap64 (a + v)) (bareR RD) (mkL ks os bs n)) ∧
    ∀ i, i < n → Like ((outs (fun a v => wrap64 (a + v)) (fun _ v => v) (bareR RD) (mkL ks vs bs n)).getD i R0) ((outs (fun a v => wrap64 (a + v)) (fun _ v => v) (bareR RD) (mkL ks os bs n)).getD i R0) ∧ ((outs (fun a v => wrap64 (a + v)) (fun _ v => v) (bareR RD) (mkL ks vs bs n)).getD i R0).s = 0 := by
  have h := outs_like (F := fun a v => wrap64 (a + v)) (G := fun _ v => v) (alike_map ks vs os bs (List.range n)) (so := bareR RD) (so' := bareR RD) ⟨rfl, rfl, rfl⟩
  exact ⟨h.1, fun i hi => h.2 i (by simpa using hi)⟩
section
variable {P : Program} {S : World → Prop} {ρ : Operand → Value} {o : Oper}
theorem y_neb {t ty : TypeId} {x y : Operand} {a b r : Bool} (ho : o.op = .binOp .neq t x y ty) (hx : ρ x = .bool a) (hy : ρ y = .bool b) (hr : (a != b) = r) (ht : P.underlying t = some .bool) :
    ∀ w, S w → (execOp ρ o).run P w = .ok (.value (.bool r)) w := Held.y_bin ho hx hy (fun w => by simp [eqGuard]) (fun w => by subst hr; simp [binOp, run_equal_bool _ t a b ht]; cases a <;> cases b <;> rfl)
end
def Apart (u v : Value) : Prop := ∀ b, u.ownBlock = some b → v.ownBlock ≠ some b
theorem Apart.symm {u v : Value} (h : Apart u v) : Apart v u := fun b e1 e2 => h b e2 e1
theorem Apart.kept {u v : Value} (h : Apart u v) : v.ownBlock = none ∨ v.ownBlock ≠ u.ownBlock := by
  cases hv : v.ownBlock with
  | none => exact .inl rfl
  | some b => exact .inr (fun e => h b e.symm hv)
theorem Apart.left {u v u' : Value} (h : Apart u v) {N : Nat} (hN : ∀ b, v.ownBlock = some b → b < N) (hu : u'.ownBlock = u.ownBlock ∨ u'.ownBlock = some N) : Apart u' v := fun b e1 e2 => by
  rcases hu with hu | hu
  · exact h b (hu ▸ e1) e2
  · rw [hu] at e1
    injection e1 with e1
    have := hN b e2
    omega
set_option maxRecDepth 100000 in
theorem at_any (B : Nat) (A : Option Addr) (n c : Nat) (zs : List Int) (i : Nat) (w : World) (h : Ints w .i64 B A n zs) : Calls Try.prog 17 #[.slice A n c, .int .i64 (i : Int)] w fun e w' => e = .returned (.int .i64 (atV zs i)) ∧ w = w' := by
  have HL := Lib.hid h.1
  go_enter Try.func17, Try.ntmps17
  by_cases hi : i < n
  · have hi' : (i : Int) < (n : Int) := by omega
    have hi0 : (0 : Int) ≤ (i : Int) := by omega
    obtain ⟨b, off, rfl, hb, hc⟩ := h.at_ hi
    have HV := Lib.hid (show zs.getD i 0 = atV zs i by unfold atV; rw [if_pos (by rw [HL.out]; exact hi)])
    generalize zs.getD i 0 = z at hc HV
    go_wp2_with fail
    go_ret
    exact ⟨Mem.ret_int HV.out, rfl⟩
  · have hi' : ¬ (i : Int) < (n : Int) := by omega
    have HV := Lib.hid (show (1 : Int) = atV zs i by unfold atV; rw [if_neg (by rw [HL.out]; exact hi)])
    go_wp2_with fail
    go_ret
    exact ⟨Mem.ret_int HV.out, rfl⟩
set_option maxRecDepth 100000 in
set_option maxHeartbeats 16000000 in
theorem start (A0 A1 A2 A3 : Option Addr) (n c n1 c1 n2 c2 n3 c3 : Nat) (ks vs os : List Int) (bs : List Bool) (w : World) (hk : Ints w .i64 w.heap.size A0 n ks) (hv : Ints w .i64 w.heap.size A1 n1 vs) (ho : Ints w .i64 w.heap.size A2 n2 os) (hb : Lst kB w w.heap.size A3 n3 bs) :
    Calls Try.prog 6 #[.slice A0 n c, .slice A1 n1 c1, .slice A2 n2 c2, .slice A3 n3 c3] w fun e w' => e = .returned (.bool true) ∧ Below w.heap.size w w' := by
  by_cases hbig : n > 60
  · have h1' : decide ((60 : Int) < (n : Int)) = true := by simp; omega
    go_enter Try.func6, Try.ntmps6
    go_wp2_with (refine Held.wpList_run (w := w) rfl (v := .bool true) (Held.y_gtr (S := fun _ => True) rfl rfl rfl h1' _ trivial) ?_; simp only [Act.put, Z1, Z2, Z3])
    refine (awake15_any w).mono ?_
    rintro e w1 ⟨rfl, b1⟩
    go_wp2_with fail
    go_ret
    exact ⟨rfl, b1⟩
  · have h1' : decide ((60 : Int) < (n : Int)) = false := by simp; omega
    have hn : n ≤ 60 := by omega
    have HKL := Lib.hid hk.1
    have HBL := Lib.hid hb.1
    have HVW := Lib.hid hv.2.1
    have HOW := Lib.hid ho.2.1
    have HLA := Lib.hid (mkL_length ks vs bs)
    have HLB := Lib.hid (mkL_length ks os bs)
    have HSA := Lib.hid (mkL_snoc ks vs bs)
    have HSB := Lib.hid (mkL_snoc ks os bs)
    have HWA := Lib.hid (fun i (hi : i ≤ 100) => mk_wf (ks := ks) (bs := bs) HVW.out hi)
    have HWB := Lib.hid (fun i (hi : i ≤ 100) => mk_wf (ks := ks) (bs := bs) HOW.out hi)
    have HLK := Lib.hid (places_like ks vs os bs n)
    have HXW := Lib.hid (outs_wf addF_wf lastG_wf (bareR RD) (mkL ks vs bs n) wf_dead (mkL_wf HVW.out (by omega)))
    have HYW := Lib.hid (outs_wf addF_wf lastG_wf (bareR RD) (mkL ks os bs n) wf_dead (mkL_wf HOW.out (by omega)))
    have HXL := Lib.hid ((outs_length (F := fun a v => wrap64 (a + v)) (G := fun _ v => v) (bareR RD) (mkL ks vs bs n)).trans (mkL_length ks vs bs n))
    have HYL := Lib.hid ((outs_length (F := fun a v => wrap64 (a + v)) (G := fun _ v => v) (bareR RD) (mkL ks os bs n)).trans (mkL_length ks os bs n))
    have HWAL := Lib.hid (mkL_wf (ks := ks) (bs := bs) HVW.out (show n ≤ 100 by omega))
    have HWBL := Lib.hid (mkL_wf (ks := ks) (bs := bs) HOW.out (show n ≤ 100 by omega))
    have HPA := Lib.hid (fun i => show mkP ks vs bs i = if i < bs.length ∧ bs.getD i false = true then RD else ⟨false, IntKind.u64.wrap (ks.getD i 0) % 3, atV vs i, (i : Int)⟩ from rfl)
    have HPB := Lib.hid (fun i => show mkP ks os bs i = if i < bs.length ∧ bs.getD i false = true then RD else ⟨false, IntKind.u64.wrap (ks.getD i 0) % 3, atV os i, (i : Int)⟩ from rfl)
    clear hbig
    go_enter Try.func6, Try.ntmps6
    go_wp2_with (refine Held.wpList_run (w := w) rfl (v := .bool false) (Held.y_gtr (S := fun _ => True) rfl rfl rfl h1' _ trivial) ?_; simp only [Act.put, Z1, Z2, Z3])
    go_loopw [10, 11, 12] (fun u v iv wr => ∃ i : Nat, i ≤ n ∧ iv = .int .i64 i ∧ OwnL kRec 26 wr w.heap.size u (mkL ks vs bs i) ∧ OwnL kRec 26 wr w.heap.size v (mkL ks os bs i) ∧ Apart u v ∧ Below w.heap.size w wr) (fun _ _ iv _ => n - (intOf iv).toNat)
    case atStart => exact ⟨0, by omega, rfl, OwnL.nil _ _ _ _, OwnL.nil _ _ _ _, (fun b e => by cases e), Below.refl _ _⟩
    case round =>
      obtain ⟨i, hi, rfl, oa, ob, hap, bw⟩ := hrel
      obtain ⟨Aa, na, ca, rfl, HNA, _, _⟩ := OwnL.form2 oa
      obtain ⟨Ab, nb, cb, rfl, HNB, _, _⟩ := OwnL.form2 ob
      by_cases hlt : i < n
      · skip
        have hlt' : (i : Int) < (n : Int) := by omega
        have hi0 : (0 : Int) ≤ (i : Int) := by omega
        have hin : i ≤ 100 := by omega
        have hna : na ≤ 60 := by have e1 := HNA.out; rw [HLA.out] at e1; omega
        have hnb : nb ≤ 60 := by have e1 := HNB.out; rw [HLB.out] at e1; omega
        have HSA1 := Lib.hid (HSA.out i)
        have HSB1 := Lib.hid (HSB.out i)
        have HWA1 := Lib.hid (HWA.out i hin)
        have HWB1 := Lib.hid (HWB.out i hin)
        have HPA1 := Lib.hid (HPA.out i)
        have HPB1 := Lib.hid (HPB.out i)
        generalize mkL ks vs bs i = la at oa HNA HSA1
        generalize mkL ks os bs i = lb at ob HNB HSB1
        obtain ⟨b0, off0, rfl, hb0, hc0⟩ := (hk.below bw).at_ hlt
        have hb0w : b0 < wr.heap.size := Nat.lt_of_lt_of_le hb0 bw.size
        have hv := hv.below bw
        have hov := ho.below bw
        obtain ⟨q, hq⟩ : ∃ q, IntKind.u64.wrap (ks.getD i 0) % 3 = q := ⟨_, rfl⟩
        obtain ⟨av, hav⟩ : ∃ av, atV vs i = av := ⟨_, rfl⟩
        obtain ⟨bv, hbv⟩ : ∃ bv, atV os i = bv := ⟨_, rfl⟩
        have HQ := Lib.hid hq
        have HAV := Lib.hid hav
        have HBV := Lib.hid hbv
        have hkey : wrap64 ((IntKind.u64.wrap (ks.getD i 0)).tmod 3) = q := by
          have hu0 : 0 ≤ IntKind.u64.wrap (ks.getD i 0) := by rw [IntKind.wrap_u64]; omega
          rw [Int.tmod_eq_emod_of_nonneg hu0, hq]
          unfold wrap64
          omega
        generalize ks.getD i 0 = x at hc0 hkey HQ HPA1 HPB1
        clear hq hav hbv
        by_cases hib : i < n3
        · have hib' : (i : Int) < (n3 : Int) := by omega
          obtain ⟨b3, off3, rfl, hb3, hx3⟩ := (hb.below bw).at_ hib
          have hcb : wr.cell? ⟨b3, off3 + i * 1 + 0, none⟩ = some (.bool (bs.getD i false)) := hx3 0 _ rfl
          rw [Nat.mul_one, Nat.add_zero] at hcb
          have hb3w : b3 < wr.heap.size := Nat.lt_of_lt_of_le hb3 bw.size
          clear hx3
          cases hbt : bs.getD i false with
          | true =>
            have HRA := Lib.hid (show mkP ks vs bs i = RD from HPA1.out.trans (if_pos ⟨by rw [HBL.out]; exact hib, hbt⟩))
            have HRB := Lib.hid (show mkP ks os bs i = RD from HPB1.out.trans (if_pos ⟨by rw [HBL.out]; exact hib, hbt⟩))
            rw [hbt] at hcb
            clear hbt HPA1 HPB1
            go_wp2_with (first
              | (refine wpList_build_blk rfl 26 #[_] rfl #[.bool true, .int .i64 0, .int .i64 0, .int .i64 0] (by kernel_rfl) ?_)
              | (refine wpList_build_lst (w := wr) (k := kRec) rfl 27 26 1 _ rfl Try.underlying27 _ 32 info_kRec rfl [RD] rfl (by kernel_rfl) (by omega) (by decide) ?_; intro w1 qq gq zq; have bq : Below wr.heap.size wr w1 := (Below.refl _ wr).grown gq (Nat.le_refl _) (by simp); have oa := OwnL.below oa bq; have ob := OwnL.below ob bq; have bw := bw.trans (bq.mono bw.size); have ob0 := ob; have lq := lst_whole (k := kRec) (xs := [RD]) (n := 1) qq rfl (fun y hy => by rw [List.mem_singleton.1 hy]; exact wf_dead); generalize wr.heap.size = gx at lq ⊢; clear qq gq zq bq)
              | (refine wpList_append_all (k := kRec) (w := w1) rfl _ _ 27 26 rfl Try.underlying27 _ 32 info_kRec rfl w.heap.size w1.heap.size 1 1 (some ⟨gx, 0, none⟩) (.slice Aa na ca) la [RD] rfl rfl oa lq (by rw [HNA.out]; omega) (by omega) bw.size ?_; intro va wa oa2 ga na2; have ob := OwnL.kept ob ga hap.kept; have hap := hap.left (fun b h => (OwnL.lt ob0 b h).2) na2; have bw := bw.grown ga bw.size (fun r h => (OwnL.lt oa r h).1); have oa := oa2; clear oa2 ga na2 lq)
              | (refine wpList_build_lst (w := wa) (k := kRec) rfl 27 26 1 _ rfl Try.underlying27 _ 32 info_kRec rfl [RD] rfl (by kernel_rfl) (by omega) (by decide) ?_; intro w3 qq gq zq; have bq : Below wa.heap.size wa w3 := (Below.refl _ wa).grown gq (Nat.le_refl _) (by simp); have oa := OwnL.below oa bq; have ob := OwnL.below ob bq; have bw := bw.trans (bq.mono bw.size); have oa0 := oa; have lq := lst_whole (k := kRec) (xs := [RD]) (n := 1) qq rfl (fun y hy => by rw [List.mem_singleton.1 hy]; exact wf_dead); generalize wa.heap.size = gx at lq ⊢; clear qq gq zq bq)
              | (refine wpList_append_all (k := kRec) (w := w3) rfl _ _ 27 26 rfl Try.underlying27 _ 32 info_kRec rfl w.heap.size w3.heap.size 1 1 (some ⟨gx, 0, none⟩) (.slice Ab nb cb) lb [RD] rfl rfl ob lq (by rw [HNB.out]; omega) (by omega) bw.size ?_; intro vb wb ob2 gb nb2; have hap := hap.symm; have oa := OwnL.kept oa gb hap.kept; have hap := (hap.left (fun b h => (OwnL.lt oa0 b h).2) nb2).symm; have bw := bw.grown gb bw.size (fun r h => (OwnL.lt ob r h).1); have ob := ob2; clear ob2 gb nb2 lq))
            go_roundw
            case rel => exact ⟨i + 1, by omega, by go_num, by rw [HSA1.out, HRA.out]; exact oa, by rw [HSB1.out, HRB.out]; exact ob, hap, bw⟩
            case measure => simp [intOf]; omega
          | false =>
            have hbf := hbt
            clear hbt
            have HRA := Lib.hid (show mkP ks vs bs i = ⟨false, q, av, (i : Int)⟩ from HPA1.out.trans ((if_neg (fun h => by rw [hbf] at h; cases h.2)).trans (by rw [HQ.out, HAV.out])))
            have HRB := Lib.hid (show mkP ks os bs i = ⟨false, q, bv, (i : Int)⟩ from HPB1.out.trans ((if_neg (fun h => by rw [hbf] at h; cases h.2)).trans (by rw [HQ.out, HBV.out])))
            have HWA2 := Lib.hid (HRA.out ▸ HWA1.out)
            have HWB2 := Lib.hid (HRB.out ▸ HWB1.out)
            rw [hbf] at hcb
            clear hbf
            clear HPA1 HPB1
            go_wp2_with fail
            refine (at_any w.heap.size A1 n1 c1 vs i wr hv).mono ?_
            rintro e w_ ⟨rfl, rfl⟩
            rw [HAV.out]
            go_wp2_with (first
              | (refine wpList_build_blk rfl 26 #[(1, .tmp 55), (2, .tmp 59), (3, .tmp 60)] rfl #[.bool false, .int .i64 q, .int .i64 av, .int .i64 (i : Int)] (by kernel_rfl) ?_)
              | (refine wpList_build_lst (w := wr) (k := kRec) rfl 27 26 1 _ rfl Try.underlying27 _ 32 info_kRec rfl [⟨false, q, av, (i : Int)⟩] rfl (by kernel_rfl) (by omega) (by decide) ?_; intro w1 qq gq zq; have bq : Below wr.heap.size wr w1 := (Below.refl _ wr).grown gq (Nat.le_refl _) (by simp); have oa := OwnL.below oa bq; have ob := OwnL.below ob bq; have bw := bw.trans (bq.mono bw.size); have ob0 := ob; have lq := lst_whole (k := kRec) (xs := [⟨false, q, av, (i : Int)⟩]) (n := 1) qq rfl (fun y hy => by rw [List.mem_singleton.1 hy]; exact HWA2.out); generalize wr.heap.size = gx at lq ⊢; clear qq gq zq bq)
              | (refine wpList_append_all (k := kRec) (w := w1) rfl _ _ 27 26 rfl Try.underlying27 _ 32 info_kRec rfl w.heap.size w1.heap.size 1 1 (some ⟨gx, 0, none⟩) (.slice Aa na ca) la [⟨false, q, av, (i : Int)⟩] rfl rfl oa lq (by rw [HNA.out]; omega) (by omega) bw.size ?_; intro va wa oa2 ga na2; have ob := OwnL.kept ob ga hap.kept; have hap := hap.left (fun b h => (OwnL.lt ob0 b h).2) na2; have bw := bw.grown ga bw.size (fun r h => (OwnL.lt oa r h).1); have oa := oa2; clear oa2 ga na2 lq))
            refine (at_any w.heap.size A2 n2 c2 os i wa (ho.below bw)).mono ?_
            rintro e w_ ⟨rfl, rfl⟩
            rw [HBV.out]
            go_wp2_with (first
              | (refine wpList_build_blk rfl 26 #[(1, .tmp 65), (2, .tmp 69), (3, .tmp 70)] rfl #[.bool false, .int .i64 q, .int .i64 bv, .int .i64 (i : Int)] (by kernel_rfl) ?_)
              | (refine wpList_build_lst (w := wa) (k := kRec) rfl 27 26 1 _ rfl Try.underlying27 _ 32 info_kRec rfl [⟨false, q, bv, (i : Int)⟩] rfl (by kernel_rfl) (by omega) (by decide) ?_; intro w3 qq gq zq; have bq : Below wa.heap.size wa w3 := (Below.refl _ wa).grown gq (Nat.le_refl _) (by simp); have oa := OwnL.below oa bq; have ob := OwnL.below ob bq; have bw := bw.trans (bq.mono bw.size); have oa0 := oa; have lq := lst_whole (k := kRec) (xs := [⟨false, q, bv, (i : Int)⟩]) (n := 1) qq rfl (fun y hy => by rw [List.mem_singleton.1 hy]; exact HWB2.out); generalize wa.heap.size = gx at lq ⊢; clear qq gq zq bq)
              | (refine wpList_append_all (k := kRec) (w := w3) rfl _ _ 27 26 rfl Try.underlying27 _ 32 info_kRec rfl w.heap.size w3.heap.size 1 1 (some ⟨gx, 0, none⟩) (.slice Ab nb cb) lb [⟨false, q, bv, (i : Int)⟩] rfl rfl ob lq (by rw [HNB.out]; omega) (by omega) bw.size ?_; intro vb wb ob2 gb nb2; have hap := hap.symm; have oa := OwnL.kept oa gb hap.kept; have hap := (hap.left (fun b h => (OwnL.lt oa0 b h).2) nb2).symm; have bw := bw.grown gb bw.size (fun r h => (OwnL.lt ob r h).1); have ob := ob2; clear ob2 gb nb2 lq))
            go_roundw
            case rel => exact ⟨i + 1, by omega, by go_num, by rw [HSA1.out, HRA.out]; exact oa, by rw [HSB1.out, HRB.out]; exact ob, hap, bw⟩
            case measure => simp [intOf]; omega
        · have hib' : ¬ (i : Int) < (n3 : Int) := by omega
          have HRA := Lib.hid (show mkP ks vs bs i = ⟨false, q, av, (i : Int)⟩ from HPA1.out.trans ((if_neg (fun h => hib (by rw [← HBL.out]; exact h.1))).trans (by rw [HQ.out, HAV.out])))
          have HRB := Lib.hid (show mkP ks os bs i = ⟨false, q, bv, (i : Int)⟩ from HPB1.out.trans ((if_neg (fun h => hib (by rw [← HBL.out]; exact h.1))).trans (by rw [HQ.out, HBV.out])))
          have HWA2 := Lib.hid (HRA.out ▸ HWA1.out)
          have HWB2 := Lib.hid (HRB.out ▸ HWB1.out)
          clear HPA1 HPB1
          go_wp2_with fail
          refine (at_any w.heap.size A1 n1 c1 vs i wr hv).mono ?_
          rintro e w_ ⟨rfl, rfl⟩
          rw [HAV.out]
          go_wp2_with (first
            | (refine wpList_build_blk rfl 26 #[(1, .tmp 55), (2, .tmp 59), (3, .tmp 60)] rfl #[.bool false, .int .i64 q, .int .i64 av, .int .i64 (i : Int)] (by kernel_rfl) ?_)
            | (refine wpList_build_lst (w := wr) (k := kRec) rfl 27 26 1 _ rfl Try.underlying27 _ 32 info_kRec rfl [⟨false, q, av, (i : Int)⟩] rfl (by kernel_rfl) (by omega) (by decide) ?_; intro w1 qq gq zq; have bq : Below wr.heap.size wr w1 := (Below.refl _ wr).grown gq (Nat.le_refl _) (by simp); have oa := OwnL.below oa bq; have ob := OwnL.below ob bq; have bw := bw.trans (bq.mono bw.size); have ob0 := ob; have lq := lst_whole (k := kRec) (xs := [⟨false, q, av, (i : Int)⟩]) (n := 1) qq rfl (fun y hy => by rw [List.mem_singleton.1 hy]; exact HWA2.out); generalize wr.heap.size = gx at lq ⊢; clear qq gq zq bq)
            | (refine wpList_append_all (k := kRec) (w := w1) rfl _ _ 27 26 rfl Try.underlying27 _ 32 info_kRec rfl w.heap.size w1.heap.size 1 1 (some ⟨gx, 0, none⟩) (.slice Aa na ca) la [⟨false, q, av, (i : Int)⟩] rfl rfl oa lq (by rw [HNA.out]; omega) (by omega) bw.size ?_; intro va wa oa2 ga na2; have ob := OwnL.kept ob ga hap.kept; have hap := hap.left (fun b h => (OwnL.lt ob0 b h).2) na2; have bw := bw.grown ga bw.size (fun r h => (OwnL.lt oa r h).1); have oa := oa2; clear oa2 ga na2 lq))
          refine (at_any w.heap.size A2 n2 c2 os i wa (ho.below bw)).mono ?_
          rintro e w_ ⟨rfl, rfl⟩
          rw [HBV.out]
          go_wp2_with (first
            | (refine wpList_build_blk rfl 26 #[(1, .tmp 65), (2, .tmp 69), (3, .tmp 70)] rfl #[.bool false, .int .i64 q, .int .i64 bv, .int .i64 (i : Int)] (by kernel_rfl) ?_)
            | (refine wpList_build_lst (w := wa) (k := kRec) rfl 27 26 1 _ rfl Try.underlying27 _ 32 info_kRec rfl [⟨false, q, bv, (i : Int)⟩] rfl (by kernel_rfl) (by omega) (by decide) ?_; intro w3 qq gq zq; have bq : Below wa.heap.size wa w3 := (Below.refl _ wa).grown gq (Nat.le_refl _) (by simp); have oa := OwnL.below oa bq; have ob := OwnL.below ob bq; have bw := bw.trans (bq.mono bw.size); have oa0 := oa; have lq := lst_whole (k := kRec) (xs := [⟨false, q, bv, (i : Int)⟩]) (n := 1) qq rfl (fun y hy => by rw [List.mem_singleton.1 hy]; exact HWB2.out); generalize wa.heap.size = gx at lq ⊢; clear qq gq zq bq)
            | (refine wpList_append_all (k := kRec) (w := w3) rfl _ _ 27 26 rfl Try.underlying27 _ 32 info_kRec rfl w.heap.size w3.heap.size 1 1 (some ⟨gx, 0, none⟩) (.slice Ab nb cb) lb [⟨false, q, bv, (i : Int)⟩] rfl rfl ob lq (by rw [HNB.out]; omega) (by omega) bw.size ?_; intro vb wb ob2 gb nb2; have hap := hap.symm; have oa := OwnL.kept oa gb hap.kept; have hap := (hap.left (fun b h => (OwnL.lt oa0 b h).2) nb2).symm; have bw := bw.grown gb bw.size (fun r h => (OwnL.lt ob r h).1); have ob := ob2; clear ob2 gb nb2 lq))
          go_roundw
          case rel => exact ⟨i + 1, by omega, by go_num, by rw [HSA1.out, HRA.out]; exact oa, by rw [HSB1.out, HRB.out]; exact ob, hap, bw⟩
          case measure => simp [intOf]; omega
      · have hin : i = n := by omega
        subst hin
        have la := OwnL.lst oa HWAL.out
        have hna2 : na = i := by have e1 := HNA.out; rw [HLA.out] at e1; exact e1.symm
        have hnb2 : nb = i := by have e1 := HNB.out; rw [HLB.out] at e1; exact e1.symm
        have lb := OwnL.lst ob HWBL.out
        subst hna2
        subst hnb2
        clear HLA HLB HSA HSB HWA HWB HPA HPB HKL HBL HWAL HWBL HVW HOW hk hv ho hb HNA HNB
        go_wp2_with fail
        refine (sum_any _).mono ?_
        rintro e w1 ⟨g, rfl, q1, hg, b1⟩
        have la := (Lst.below la b1).more b1.size
        have lb := (Lst.below lb b1).more b1.size
        have b1 := bw.trans (b1.mono bw.size)
        go_wp2_with (refine wpList_build_blk rfl 26 #[_] rfl #[.bool true, .int .i64 0, .int .i64 0, .int .i64 0] (by kernel_rfl) ?_)
        refine (step_sum g w1.heap.size _ nb ca RD _ w1 q1 la (Nat.le_refl _) (by omega) wf_dead).mono ?_
        rintro e w2 ⟨vx, rfl, ox, b2⟩
        have lb := (Lst.below lb b2).more b2.size
        have b2 := b1.trans (b2.mono b1.size)
        obtain ⟨Ax, cx, rfl, _⟩ := OwnL.form ox
        have lx := OwnL.lst ox HXW.out
        rw [HXL.out] at lx
        rw [HXL.out]
        obtain ⟨HEND, HALL⟩ := HLK.out
        obtain ⟨EA, hEA⟩ : ∃ EA, ends (fun a v => wrap64 (a + v)) (bareR RD) (mkL ks vs bs nb) = EA := ⟨_, rfl⟩
        obtain ⟨EB, hEB⟩ : ∃ EB, ends (fun a v => wrap64 (a + v)) (bareR RD) (mkL ks os bs nb) = EB := ⟨_, rfl⟩
        obtain ⟨XA, hXA⟩ : ∃ XA, outs (fun a v => wrap64 (a + v)) (fun _ v => v) (bareR RD) (mkL ks vs bs nb) = XA := ⟨_, rfl⟩
        obtain ⟨XB, hXB⟩ : ∃ XB, outs (fun a v => wrap64 (a + v)) (fun _ v => v) (bareR RD) (mkL ks os bs nb) = XB := ⟨_, rfl⟩
        rw [hEA, hEB] at HEND
        rw [hXA, hXB] at HALL
        rw [hXA] at lx
        rw [hEA]
        rw [hXB] at HYW HYL
        rw [hXA] at HXL
        have HAL := Lib.hid HALL
        have HEB := Lib.hid hEB
        have HXB := Lib.hid hXB
        clear HLK HXW ox hEA hEB hXA hXB HALL b1 q1 oa ob
        obtain ⟨ed, ek, ev, es⟩ := EA
        go_wp2_with (first
          | (refine wpList_alloc_blk (w := w2) rfl 26 rfl _ zero_rec ?_; intro w3 q3 g3 z3)
          | (refine wpList_store_blk (w := w3) rfl 26 _ _ rfl w2.heap.size 4 rfl 26 _ #[.bool ed, .int .i64 ek, .int .i64 ev, .int .i64 es] rfl q3 info_rec rfl rfl (by kernel_rfl) ?_; intro w4 q4 g4 z4; have b4 : Below w2.heap.size w2 w4 := ((Below.refl _ w2).grown g3 (Nat.le_refl _) (by simp)).grown g4 g3.size (fun r e => by cases e; exact Nat.le_refl _); have lx := (Lst.below lx b4).more b4.size; have lb := (Lst.below lb b4).more b4.size; clear q3 g3 g4 z3 z4))
        have b4 := b2.trans (b4.mono b2.size)
        refine (sum_any _).mono ?_
        rintro e w5 ⟨g', rfl, q5, hg', b5⟩
        have lx := (Lst.below lx b5).more b5.size
        have lb := (Lst.below lb b5).more b5.size
        have q4 := q4.after b5
        have b5 := b4.trans (b5.mono b4.size)
        go_wp2_with (refine wpList_build_blk rfl 26 #[_] rfl #[.bool true, .int .i64 0, .int .i64 0, .int .i64 0] (by kernel_rfl) ?_)
        refine (step_sum g' w5.heap.size _ nb cb RD _ w5 q5 lb (Nat.le_refl _) (by omega) wf_dead).mono ?_
        rintro e w6 ⟨vy, rfl, oy, b6⟩
        have lx := (Lst.below lx b6).more b6.size
        have q4 := q4.after b6
        have b6 := b5.trans (b6.mono b5.size)
        rw [HXB.out] at oy
        rw [HEB.out]
        obtain ⟨Ay, cy, rfl, _⟩ := OwnL.form oy
        have ly := OwnL.lst oy HYW.out
        rw [HYL.out] at ly
        rw [HYL.out]
        clear b5 q5 oy lb HXB HEB HYW b4 b2
        obtain ⟨fd, fk, fv, fs⟩ := EB
        obtain ⟨rfl, rfl, _⟩ : ed = fd ∧ ek = fk ∧ es = fs := HEND
        go_wp2_with (first
          | (refine wpList_alloc_blk (w := w6) rfl 26 rfl _ zero_rec ?_; intro w7 q7 g7 z7)
          | (refine wpList_store_blk (w := w7) rfl 26 _ _ rfl w6.heap.size 4 rfl 26 _ #[.bool ed, .int .i64 ek, .int .i64 fv, .int .i64 fs] rfl q7 info_rec rfl rfl (by kernel_rfl) ?_; intro w8 q8 g8 z8))
        have b8 : Below w6.heap.size w6 w8 := ((Below.refl _ w6).grown g7 (Nat.le_refl _) (by simp)).grown g8 g7.size (fun r e => by cases e; exact Nat.le_refl _)
        have lx := (Lst.below lx b8).more b8.size
        have ly := (Lst.below ly b8).more b8.size
        have q4 := q4.after b8
        have b8 := b6.trans (b8.mono b6.size)
        clear q7 g7 g8 z7 z8 b6
        refine (awake15_any w8).mono ?_
        rintro e w9 ⟨rfl, b9⟩
        have lx := (Lst.below lx b9).more b9.size
        have ly := (Lst.below ly b9).more b9.size
        have q4 := q4.after b9
        have q8 := q8.after b9
        have b9 := b8.trans (b9.mono b8.size)
        have cd1 := q4.cell (i := 0) rfl
        have ck1 := q4.cell (i := 1) rfl
        have cd2 := q8.cell (i := 0) rfl
        have ck2 := q8.cell (i := 1) rfl
        clear b8
        go_wp2_with (first
          | (refine wpList_run (w := w9) rfl (v := .pointer (some ⟨w2.heap.size, 0, none⟩)) (Held.y_field (S := fun _ => True) (k := 0) (s := 0) rfl rfl Try.underlying26 rfl (by kernel_rfl) rfl _ trivial) ?_)
          | (refine wpList_run (w := w9) rfl (v := .pointer (some ⟨w2.heap.size, 1, none⟩)) (Held.y_field (S := fun _ => True) (k := 1) (s := 0) rfl rfl Try.underlying26 rfl (by kernel_rfl) rfl _ trivial) ?_)
          | (refine wpList_run (w := w9) rfl (v := .pointer (some ⟨w6.heap.size, 0, none⟩)) (Held.y_field (S := fun _ => True) (k := 0) (s := 0) rfl rfl Try.underlying26 rfl (by kernel_rfl) rfl _ trivial) ?_)
          | (refine wpList_run (w := w9) rfl (v := .pointer (some ⟨w6.heap.size, 1, none⟩)) (Held.y_field (S := fun _ => True) (k := 1) (s := 0) rfl rfl Try.underlying26 rfl (by kernel_rfl) rfl _ trivial) ?_)
          | (refine wpList_run (w := w9) rfl (v := .bool false) (y_neb (S := fun _ => True) (a := ed) (b := ed) rfl rfl rfl (by cases ed <;> rfl) Try.underlying4 _ trivial) ?_)
          | (refine wpList_run (w := w9) rfl (v := .bool false) (Held.y_neI (S := fun _ => True) (a := ek) (b := ek) rfl rfl rfl (by simp) _ trivial) ?_))
        clear q4 q8 cd1 ck1 cd2 ck2
        go_loopw [18] (fun iv wr => ∃ j : Nat, j ≤ nb ∧ iv = .int .i64 j ∧ Below w9.heap.size w9 wr) (fun iv _ => nb - (intOf iv).toNat)
        case atStart => exact ⟨0, by omega, rfl, Below.refl _ _⟩
        case round =>
          obtain ⟨j, hj, rfl, br⟩ := hrel
          by_cases hlj : j < nb
          · obtain ⟨bx, ox, rfl, hbx, hhx⟩ := (Lst.below lx br).at_ hlj
            obtain ⟨by_, oy, rfl, hby, hhy⟩ := (Lst.below ly br).at_ hlj
            have hxw : bx < wr.heap.size := Nat.lt_of_lt_of_le hbx br.size
            have hyw : by_ < wr.heap.size := Nat.lt_of_lt_of_le hby br.size
            obtain ⟨⟨hk1, hk2, hk3⟩, hk4⟩ := HAL.out j hlj
            have hhx : wr.rangeAt bx (ox + j * 4) (XA.getD j R0).cells := hhx
            have hhy : wr.rangeAt by_ (oy + j * 4) (XB.getD j R0).cells := hhy
            generalize XA.getD j R0 = xa at hhx hk1 hk2 hk3 hk4
            generalize XB.getD j R0 = xb at hhy hk1 hk2 hk3
            obtain ⟨xd, xk, xv, xs⟩ := xa
            obtain ⟨yd, yk, yv, ys⟩ := xb
            dsimp only at hk1 hk2 hk3 hk4
            subst hk4
            subst hk1
            subst hk2
            obtain rfl : ys = 0 := hk3.symm
            have hhx : wr.rangeAt bx (ox + j * 4) [.bool xd, .int .i64 xk, .int .i64 xv, .int .i64 0] := hhx
            have hhy : wr.rangeAt by_ (oy + j * 4) [.bool xd, .int .i64 xk, .int .i64 yv, .int .i64 0] := hhy
            have hlj' : (j : Int) < (nb : Int) := by omega
            have hj0 : (0 : Int) ≤ (j : Int) := by omega
            clear hk3
            go_wp2_with fail
            refine wp_region_held (S := fun W => Below wr.heap.size wr W) (by kernel_rfl) ?_
            change wpAnyH _ _ _ _ _ _ _ _ wr.drew
            have c0_0 := (Below.refl wr.heap.size wr).drew
            refine Held.tk (v := .slice (some ⟨bx, ox, none⟩) nb cx) 0 (some 124) rfl (Held.y_move rfl rfl) c0_0 ?_
            simp only [Act.put, Z1, Z2, Z3]
            refine Held.tk (v := .int .i64 (j : Int)) 1 (some 125) rfl (Held.y_move rfl rfl) c0_0 ?_
            simp only [Act.put, Z1, Z2, Z3]
            refine Held.tk (v := .pointer (some ⟨bx, ox + j * 4, none⟩)) 2 (some 126) rfl (Held.y_addr rfl rfl rfl (run_addr_of 27 26 bx ox nb cx j 4 .i64 Try.underlying27 info_rec hlj)) c0_0 ?_
            simp only [Act.put, Z1, Z2, Z3]
            refine Held.tk (v := .pointer (some ⟨bx, ox + j * 4 + 0, none⟩)) 3 (some 127) rfl (Held.y_field (k := 0) (s := 0) rfl rfl Try.underlying26 rfl (by kernel_rfl) rfl) c0_0 ?_
            simp only [Act.put, Z1, Z2, Z3]
            refine Held.tk (v := .bool xd) 4 (some 128) rfl (Held.y_load rfl rfl (by kernel_rfl) (fun X hX => (hX.cell (p := ⟨bx, _, none⟩) hxw).trans (hhx 0 _ rfl))) c0_0 ?_
            simp only [Act.put, Z1, Z2, Z3]
            refine Held.tk (v := .slice (some ⟨by_, oy, none⟩) nb cy) 5 (some 129) rfl (Held.y_move rfl rfl) c0_0 ?_
            simp only [Act.put, Z1, Z2, Z3]
            refine Held.tk (v := .int .i64 (j : Int)) 6 (some 130) rfl (Held.y_move rfl rfl) c0_0 ?_
            simp only [Act.put, Z1, Z2, Z3]
            refine Held.tk (v := .pointer (some ⟨by_, oy + j * 4, none⟩)) 7 (some 131) rfl (Held.y_addr rfl rfl rfl (run_addr_of 27 26 by_ oy nb cy j 4 .i64 Try.underlying27 info_rec hlj)) c0_0 ?_
            simp only [Act.put, Z1, Z2, Z3]
            refine Held.tk (v := .pointer (some ⟨by_, oy + j * 4 + 0, none⟩)) 8 (some 132) rfl (Held.y_field (k := 0) (s := 0) rfl rfl Try.underlying26 rfl (by kernel_rfl) rfl) c0_0 ?_
            simp only [Act.put, Z1, Z2, Z3]
            refine Held.tk (v := .bool xd) 9 (some 133) rfl (Held.y_load rfl rfl (by kernel_rfl) (fun X hX => (hX.cell (p := ⟨by_, _, none⟩) hyw).trans (hhy 0 _ rfl))) c0_0 ?_
            simp only [Act.put, Z1, Z2, Z3]
            refine Held.tk (v := .bool false) 10 (some 134) rfl (y_neb (a := xd) (b := xd) rfl rfl rfl (by cases xd <;> rfl) Try.underlying4) c0_0 ?_
            simp only [Act.put, Z1, Z2, Z3]
            refine Held.tk (v := .bool false) 11 (some 135) rfl (Held.y_move rfl rfl) c0_0 ?_
            simp only [Act.put, Z1, Z2, Z3]
            refine Held.tk (v := .slice (some ⟨bx, ox, none⟩) nb cx) 12 (some 136) rfl (Held.y_move rfl rfl) c0_0 ?_
            simp only [Act.put, Z1, Z2, Z3]
            refine Held.tk (v := .int .i64 (j : Int)) 13 (some 137) rfl (Held.y_move rfl rfl) c0_0 ?_
            simp only [Act.put, Z1, Z2, Z3]
            refine Held.tk (v := .pointer (some ⟨bx, ox + j * 4, none⟩)) 14 (some 138) rfl (Held.y_addr rfl rfl rfl (run_addr_of 27 26 bx ox nb cx j 4 .i64 Try.underlying27 info_rec hlj)) c0_0 ?_
            simp only [Act.put, Z1, Z2, Z3]
            refine Held.tk (v := .pointer (some ⟨bx, ox + j * 4 + 1, none⟩)) 15 (some 139) rfl (Held.y_field (k := 1) (s := 0) rfl rfl Try.underlying26 rfl (by kernel_rfl) rfl) c0_0 ?_
            simp only [Act.put, Z1, Z2, Z3]
            refine Held.tk (v := .int .i64 xk) 16 (some 140) rfl (Held.y_load rfl rfl (by kernel_rfl) (fun X hX => (hX.cell (p := ⟨bx, _, none⟩) hxw).trans (hhx 1 _ rfl))) c0_0 ?_
            simp only [Act.put, Z1, Z2, Z3]
            refine Held.tk (v := .slice (some ⟨by_, oy, none⟩) nb cy) 17 (some 141) rfl (Held.y_move rfl rfl) c0_0 ?_
            simp only [Act.put, Z1, Z2, Z3]
            refine Held.tk (v := .int .i64 (j : Int)) 18 (some 142) rfl (Held.y_move rfl rfl) c0_0 ?_
            simp only [Act.put, Z1, Z2, Z3]
            refine Held.tk (v := .pointer (some ⟨by_, oy + j * 4, none⟩)) 19 (some 143) rfl (Held.y_addr rfl rfl rfl (run_addr_of 27 26 by_ oy nb cy j 4 .i64 Try.underlying27 info_rec hlj)) c0_0 ?_
            simp only [Act.put, Z1, Z2, Z3]
            refine Held.tk (v := .pointer (some ⟨by_, oy + j * 4 + 1, none⟩)) 20 (some 144) rfl (Held.y_field (k := 1) (s := 0) rfl rfl Try.underlying26 rfl (by kernel_rfl) rfl) c0_0 ?_
            simp only [Act.put, Z1, Z2, Z3]
            refine Held.tk (v := .int .i64 xk) 21 (some 145) rfl (Held.y_load rfl rfl (by kernel_rfl) (fun X hX => (hX.cell (p := ⟨by_, _, none⟩) hyw).trans (hhy 1 _ rfl))) c0_0 ?_
            simp only [Act.put, Z1, Z2, Z3]
            refine Held.tk (v := .bool false) 22 (some 146) rfl (Held.y_neI (a := xk) (b := xk) rfl rfl rfl (by simp)) c0_0 ?_
            simp only [Act.put, Z1, Z2, Z3]
            refine Held.tk (v := .bool false) 23 (some 147) rfl (Held.y_pickF rfl rfl rfl) c0_0 ?_
            simp only [Act.put, Z1, Z2, Z3]
            refine Held.tk (v := .bool false) 24 (some 148) rfl (Held.y_move rfl rfl) c0_0 ?_
            simp only [Act.put, Z1, Z2, Z3]
            refine Held.tk (v := .slice (some ⟨bx, ox, none⟩) nb cx) 25 (some 149) rfl (Held.y_move rfl rfl) c0_0 ?_
            simp only [Act.put, Z1, Z2, Z3]
            refine Held.tk (v := .int .i64 (j : Int)) 26 (some 150) rfl (Held.y_move rfl rfl) c0_0 ?_
            simp only [Act.put, Z1, Z2, Z3]
            refine Held.tk (v := .pointer (some ⟨bx, ox + j * 4, none⟩)) 27 (some 151) rfl (Held.y_addr rfl rfl rfl (run_addr_of 27 26 bx ox nb cx j 4 .i64 Try.underlying27 info_rec hlj)) c0_0 ?_
            simp only [Act.put, Z1, Z2, Z3]
            refine Held.tk (v := .pointer (some ⟨bx, ox + j * 4 + 3, none⟩)) 28 (some 152) rfl (Held.y_field (k := 3) (s := 0) rfl rfl Try.underlying26 rfl (by kernel_rfl) rfl) c0_0 ?_
            simp only [Act.put, Z1, Z2, Z3]
            refine Held.tk (v := .int .i64 0) 29 (some 153) rfl (Held.y_load rfl rfl (by kernel_rfl) (fun X hX => (hX.cell (p := ⟨bx, _, none⟩) hxw).trans (hhx 3 _ rfl))) c0_0 ?_
            simp only [Act.put, Z1, Z2, Z3]
            refine Held.tk (v := .bool false) 30 (some 154) rfl (Held.y_neI (a := 0) (b := 0) rfl rfl rfl (by simp)) c0_0 ?_
            simp only [Act.put, Z1, Z2, Z3]
            refine Held.tk (v := .bool false) 31 (some 155) rfl (Held.y_pickF rfl rfl rfl) c0_0 ?_
            simp only [Act.put, Z1, Z2, Z3]
            refine Held.tk (v := .bool false) 32 (some 156) rfl (Held.y_move rfl rfl) c0_0 ?_
            simp only [Act.put, Z1, Z2, Z3]
            refine Held.tk (v := .slice (some ⟨by_, oy, none⟩) nb cy) 33 (some 157) rfl (Held.y_move rfl rfl) c0_0 ?_
            simp only [Act.put, Z1, Z2, Z3]
            refine Held.tk (v := .int .i64 (j : Int)) 34 (some 158) rfl (Held.y_move rfl rfl) c0_0 ?_
            simp only [Act.put, Z1, Z2, Z3]
            refine Held.tk (v := .pointer (some ⟨by_, oy + j * 4, none⟩)) 35 (some 159) rfl (Held.y_addr rfl rfl rfl (run_addr_of 27 26 by_ oy nb cy j 4 .i64 Try.underlying27 info_rec hlj)) c0_0 ?_
            simp only [Act.put, Z1, Z2, Z3]
            refine Held.tk (v := .pointer (some ⟨by_, oy + j * 4 + 3, none⟩)) 36 (some 160) rfl (Held.y_field (k := 3) (s := 0) rfl rfl Try.underlying26 rfl (by kernel_rfl) rfl) c0_0 ?_
            simp only [Act.put, Z1, Z2, Z3]
            refine Held.tk (v := .int .i64 0) 37 (some 161) rfl (Held.y_load rfl rfl (by kernel_rfl) (fun X hX => (hX.cell (p := ⟨by_, _, none⟩) hyw).trans (hhy 3 _ rfl))) c0_0 ?_
            simp only [Act.put, Z1, Z2, Z3]
            refine Held.tk (v := .bool false) 38 (some 162) rfl (Held.y_neI (a := 0) (b := 0) rfl rfl rfl (by simp)) c0_0 ?_
            simp only [Act.put, Z1, Z2, Z3]
            refine Held.tk (v := .bool false) 39 (some 163) rfl (Held.y_pickF rfl rfl rfl) c0_0 ?_
            simp only [Act.put, Z1, Z2, Z3]
            refine wpAnyH_done (by kernel_rfl) ?_ _
            have br := br.trans (c0_0.mono br.size)
            generalize wr.drew = wd at br ⊢
            clear c0_0 hhx hhy
            go_wp2_with fail
            go_roundw
            case rel => exact ⟨j + 1, by omega, by go_num, br⟩
            case measure => simp [intOf]; omega
          · have hjn : j = nb := by omega
            subst hjn
            go_wp2_with fail
            go_ret
            exact ⟨rfl, b9.trans (br.mono b9.size)⟩
theorem walk (a0 : Option Addr) (len0 cap0 : Nat) (z0 : List Int) (a1 : Option Addr) (len1 cap1 : Nat) (z1 : List Int) (a2 : Option Addr) (len2 cap2 : Nat) (z2 : List Int) (A3 : Option Addr) (m3 c3 : Nat) (bs3 : List Bool) (w : World) (w0 : IsRow .i64 w a0 len0 cap0 z0) (w1 : IsRow .i64 w a1 len1 cap1 z1) (w2 : IsRow .i64 w a2 len2 cap2 z2) (hb3 : Sl.Lst Vm.kB w w.heap.size A3 m3 bs3 ∧ m3 ≤ c3 ∧ c3 ≤ maxLen) :
    Calls Try.prog 6 #[.slice a0 len0 cap0, .slice a1 len1 cap1, .slice a2 len2 cap2, .slice A3 m3 c3] w fun e w' => e = .returned (.bool true) ∧ Below w.heap.size w w' := by
  obtain ⟨hz0, hl0, hm0⟩ := ints_of_row w0
  obtain ⟨hz1, hl1, hm1⟩ := ints_of_row w1
  obtain ⟨hz2, hl2, hm2⟩ := ints_of_row w2
  exact start a0 a1 a2 A3 len0 cap0 len1 cap1 len2 cap2 m3 c3 _ _ _ bs3 w hz0 hz1 hz2 hb3.1
set_option maxRecDepth 100000 in
theorem lifted (os : Os) (started : os.Started) (H : Type) (enc : TypeId × Value → H) :
    ReturnsInHanded {} Try.checked os 6 .any (Rows.chainPlacesSpec.pre6 enc Try.prog Try.f6 Rows.chainPlacesRow.domain false) (Rows.chainPlacesSpec.post enc Try.prog Try.f6 false true false false) := by
  refine returnsInHanded_of_change (C := Try.checked) own started (by kernel_rfl) Try.func6
    (ChangeSpec.witness6 (enc := enc) (C := Try.checked) false ⟨#[], #[.slice none 0 0, .slice none 0 0, .slice none 0 0, .slice none 0 0], []⟩ 8 (by kernel_rfl) (by kernel_rfl) (by kernel_rfl) (by kernel_rfl)) ?_
  intro W base args ds gs before hval0 hW hcnd _
  have hval : ∀ (j : Nat) t v, Try.f6.params[j]? = some t → args[j]? = some v → Value.okWide Try.prog W .any base t v := hval0
  have hW' := hW
  obtain ⟨p, q, hA0, hV, rfl, hfz, hnd⟩ := hW
  have hA : DataW.TrodAll enc Try.prog W 0 (fun _ => true) true Try.f6.params.toList args.toList ds p := hA0
  rw [Try.params6] at hA hval
  obtain ⟨v0, vs0, d0, ds0, p0, q0, hargs, rfl, rfl, h0, r0⟩ := trodAll_cons hA
  obtain ⟨v1, vs1, d1, ds1, p1, q1, rfl, rfl, rfl, h1, r1⟩ := trodAll_cons r0
  obtain ⟨v2, vs2, d2, ds2, p2, q2, rfl, rfl, rfl, h2, r2⟩ := trodAll_cons r1
  obtain ⟨v3, vs3, d3, ds3, p3, q3, rfl, rfl, rfl, h3, r3⟩ := trodAll_cons r2
  obtain ⟨rfl, rfl, rfl⟩ := trodAll_nil r3
  obtain rfl : args = #[v0, v1, v2, v3] := by cases args; simp_all
  obtain ⟨rfl, rfl⟩ := trodVars_none hV
  obtain ⟨a0, len0, cap0, rfl⟩ := okWide_slice Try.underlying35 (hval 0 35 v0 rfl rfl)
  have k0 := h0
  have lt0 : ∀ x ∈ p0, x.block < W.heap.size := by obtain ⟨m, hm⟩ := k0; exact DataW.trod_lt m _ _ _ hm
  obtain ⟨z0, w0⟩ : ∃ zs, IsRow .i64 W a0 len0 cap0 zs := by
    obtain ⟨fuel, hf⟩ := h0
    rcases open_ints Try.underlying35 Try.underlying3 (by kernel_rfl) hf with ⟨hcs, _⟩ | ⟨x, l, c, zs, hcs, _, hl, hm, hz, _, hcell, hwz⟩
    · simp [Value.cells] at hcs
      obtain ⟨rfl, rfl, rfl⟩ := hcs
      exact ⟨[], .inl ⟨rfl, rfl, rfl, rfl⟩⟩
    · simp [Value.cells] at hcs
      obtain ⟨rfl, rfl, rfl⟩ := hcs
      exact ⟨zs, .inr ⟨_, rfl, hl, hm, by simpa using hz, hcell, hwz⟩⟩
  obtain ⟨a1, len1, cap1, rfl⟩ := okWide_slice Try.underlying45 (hval 1 45 v1 rfl rfl)
  have k1 := h1
  have lt1 : ∀ x ∈ p1, x.block < W.heap.size := by obtain ⟨m, hm⟩ := k1; exact DataW.trod_lt m _ _ _ hm
  obtain ⟨z1, w1⟩ : ∃ zs, IsRow .i64 W a1 len1 cap1 zs := by
    obtain ⟨fuel, hf⟩ := h1
    rcases open_ints Try.underlying45 Try.underlying2 (by kernel_rfl) hf with ⟨hcs, _⟩ | ⟨x, l, c, zs, hcs, _, hl, hm, hz, _, hcell, hwz⟩
    · simp [Value.cells] at hcs
      obtain ⟨rfl, rfl, rfl⟩ := hcs
      exact ⟨[], .inl ⟨rfl, rfl, rfl, rfl⟩⟩
    · simp [Value.cells] at hcs
      obtain ⟨rfl, rfl, rfl⟩ := hcs
      exact ⟨zs, .inr ⟨_, rfl, hl, hm, by simpa using hz, hcell, hwz⟩⟩
  obtain ⟨a2, len2, cap2, rfl⟩ := okWide_slice Try.underlying45 (hval 2 45 v2 rfl rfl)
  have k2 := h2
  have lt2 : ∀ x ∈ p2, x.block < W.heap.size := by obtain ⟨m, hm⟩ := k2; exact DataW.trod_lt m _ _ _ hm
  obtain ⟨z2, w2⟩ : ∃ zs, IsRow .i64 W a2 len2 cap2 zs := by
    obtain ⟨fuel, hf⟩ := h2
    rcases open_ints Try.underlying45 Try.underlying2 (by kernel_rfl) hf with ⟨hcs, _⟩ | ⟨x, l, c, zs, hcs, _, hl, hm, hz, _, hcell, hwz⟩
    · simp [Value.cells] at hcs
      obtain ⟨rfl, rfl, rfl⟩ := hcs
      exact ⟨[], .inl ⟨rfl, rfl, rfl, rfl⟩⟩
    · simp [Value.cells] at hcs
      obtain ⟨rfl, rfl, rfl⟩ := hcs
      exact ⟨zs, .inr ⟨_, rfl, hl, hm, by simpa using hz, hcell, hwz⟩⟩
  obtain ⟨A3, m3, c3, rfl⟩ := okWide_slice Try.underlying46 (hval 3 46 v3 rfl rfl)
  have kk3 := h3
  have lt3 : ∀ x ∈ p3, x.block < W.heap.size := by obtain ⟨m, hm⟩ := kk3; exact DataW.trod_lt m _ _ _ hm
  obtain ⟨bs3, hb3⟩ := Vm.open_lstT (k := Vm.kB) Try.underlying46 (by kernel_rfl) Vm.open_truth h3
  clear hA0 hval0
  refine (walk a0 len0 cap0 z0 a1 len1 cap1 z1 a2 len2 cap2 z2 A3 m3 c3 bs3 W w0 w1 w2 hb3).mono fun e W' ⟨he, bel⟩ => ?_
  subst he
  exact ⟨_, rfl, _, _, _, [], _, [], hW', trodAll_mk1 (shut_bool Try.underlying4 _), (trodAll_cons_mk (Below.trod laidOut (by kernel_rfl) (of_decide_eq_true (by kernel_rfl)) k0 bel lt0) (trodAll_cons_mk (Below.trod laidOut (by kernel_rfl) (of_decide_eq_true (by kernel_rfl)) k1 bel lt1) (trodAll_cons_mk (Below.trod laidOut (by kernel_rfl) (of_decide_eq_true (by kernel_rfl)) k2 bel lt2) (trodAll_cons_mk (Below.trod laidOut (by kernel_rfl) (of_decide_eq_true (by kernel_rfl)) kk3 bel lt3) trodAll_mk0)))), rfl, bel.frame _, fun h => by cases h⟩
theorem over : Rows.chainPlacesRow.holds Try.pinned (OpenSpec.ofChange Rows.chainPlacesSpec) :=
  OpenClaim.holds_of_wide 6 Try.f6 rfl rfl rfl rfl rfl rfl rfl ⟨rfl, rfl, rfl, rfl, rfl⟩ rfl rfl rfl rfl rfl (by kernel_rfl) Try.func6 (by kernel_rfl)
    (of_decide_eq_true (by kernel_rfl)) (by unfold Func.isWrapper; first | (rw [if_pos (by decide +kernel)]; kernel_rfl) | (rw [if_neg (by decide +kernel)]; exact ⟨rfl, rfl⟩))
    (fun os started H enc _ => lifted os started H enc)
theorem proved : Rows.ChainPlacesSaid :=
  over
#print axioms proved
end Go.Proofs.Ytkiempdpfmolfaa.chainPlaces
