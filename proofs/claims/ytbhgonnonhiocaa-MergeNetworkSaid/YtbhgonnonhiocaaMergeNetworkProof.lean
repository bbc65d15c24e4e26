/-
  The law MergeNetwork of package dominolaw14 returns true whatever records come in, for 1 to 16 blocks of 1 to 4 of them, by either order: sorted, and then split pair by pair, round by round, as the network says, they are sorted, block behind block.
-/
import Derived.Test.YtbhgonnonhiocaaRows
import Derived.WalkKit
import Derived.ProofKit
import Derived.OpenShut
import Derived.ShutString
import Derived.ChangeOld
import Derived.Below
import Derived.Test.YtbhgonnonhiocaaB8
import Derived.Test.YtbhgonnonhiocaaB9
namespace Go.Proofs.Ytbhgonnonhiocaa.mergeNetwork
open Go.ChangeShapes Go.WideShapes Go.ChangeAt Go.RowKit
open Go.ChangeMaps (open_string shut_string)
open Go.Shelf Go.Proofs.Ytbhgonnonhiocaa Mem Held Ct Rc Rs Sl Mg
theorem own : ownKnob Try.prog.godebug = none := by kernel_rfl
theorem laidOut : laidOutB Try.prog = true := by kernel_rfl
attribute [local irreducible] wpList wpListIn Calls
def recAt (rs : List R) (p : Nat) : R := if p < rs.length then rs.getD p R0 else RD
def blockOf (rs : List R) (z q j : Nat) : List R := (List.range j).map fun k => recAt rs (q * z + k)
def startB (seq : Bool) (rs : List R) (z M : Nat) : List (List R) := (List.range M).map fun q => sortR seq (blockOf rs z q z)
theorem blockOf_succ (rs : List R) (z q j : Nat) : blockOf rs z q (j + 1) = blockOf rs z q j ++ [recAt rs (q * z + j)] := by simp [blockOf, List.range_succ]
theorem blockOf_length (rs : List R) (z q j : Nat) : (blockOf rs z q j).length = j := by simp [blockOf]
theorem startB_succ (seq : Bool) (rs : List R) (z M : Nat) : startB seq rs z (M + 1) = startB seq rs z M ++ [sortR seq (blockOf rs z M z)] := by simp [startB, List.range_succ]
theorem startB_length (seq : Bool) (rs : List R) (z M : Nat) : (startB seq rs z M).length = M := by simp [startB]
theorem recAt_wf {rs : List R} (h : ∀ r ∈ rs, r.wf) (p : Nat) : (recAt rs p).wf := by
  unfold recAt
  split
  · rename_i hp
    exact h _ (getD_mem hp)
  · exact ⟨rfl, rfl, rfl⟩
theorem blockOf_wf {rs : List R} (h : ∀ r ∈ rs, r.wf) (z q j : Nat) : ∀ x ∈ blockOf rs z q j, x.wf := fun x hx => by
  obtain ⟨k, _, rfl⟩ := List.mem_map.1 hx
  exact recAt_wf h _
def Wf (bs : List (List R)) : Prop := ∀ X ∈ bs, ∀ x ∈ X, x.wf
theorem startB_wf {rs : List R} (h : ∀ r ∈ rs, r.wf) (seq : Bool) (z M : Nat) : Wf (startB seq rs z M) := fun X hX x hx => by
  obtain ⟨q, _, rfl⟩ := List.mem_map.1 hX
  exact blockOf_wf h z q z x ((sortR_perm seq _).mem_iff.1 hx)
theorem startB_even (seq : Bool) (rs : List R) (z M : Nat) : Even seq z (startB seq rs z M) := fun X hX => by
  obtain ⟨q, _, rfl⟩ := List.mem_map.1 hX
  exact ⟨by rw [sortR_length, blockOf_length], sortR_sorts seq _⟩
theorem Wf.split {seq : Bool} {d : Nat} {up : Nat → Bool} {bs : List (List R)} {a : Nat} (h : Wf bs) (ha : a + d < bs.length) : Wf (splitB seq d up bs a) := by
  have hs : ∀ x ∈ sortR seq (blk bs a ++ blk bs (a + d)), x.wf := fun x hx => by
    rcases List.mem_append.1 ((sortR_perm seq _).mem_iff.1 hx) with h1 | h1
    · exact h _ (blk_mem (by omega)) x h1
    · exact h _ (blk_mem ha) x h1
  intro X hX x hx
  rcases mem_sets hX with rfl | rfl | hX
  · split at hx
    · exact hs x (List.mem_of_mem_drop hx)
    · exact hs x (List.mem_of_mem_take hx)
  · split at hx
    · exact hs x (List.mem_of_mem_take hx)
    · exact hs x (List.mem_of_mem_drop hx)
  · exact h X hX x hx
theorem stg_pow {S : Nat} (h : S ≤ 4) : Bi.stg ((2 ^ S : Nat) : Int) = S := by
  have : S = 0 ∨ S = 1 ∨ S = 2 ∨ S = 3 ∨ S = 4 := by omega
  rcases this with rfl | rfl | rfl | rfl | rfl <;> decide +kernel
theorem upV_is {M s t a : Nat} (hM : a < M) (hb : a / 2 ^ (t - 1) % 2 = 0) : Bi.upV (M : Int) s t true (a : Int) = Net.ups s a := by
  have e1 : ((a : Int) / 2 ^ (t - 1)) % 2 = ((a / 2 ^ (t - 1) % 2 : Nat) : Int) := by rw [Bi.two_nat, ← Int.natCast_ediv]; omega
  have e2 : ((a : Int) / 2 ^ s) % 2 = ((a / 2 ^ s % 2 : Nat) : Int) := by rw [Bi.two_nat, ← Int.natCast_ediv]; omega
  unfold Bi.upV Net.ups
  rw [e1, e2, hb]
  have h1 : decide ((0 : Int) ≤ (a : Int)) = true := by simp
  have h2 : decide ((a : Int) < (M : Int)) = true := by simp; omega
  rw [h1, h2]
  by_cases h : a / 2 ^ s % 2 = 0
  · rw [h]; rfl
  · have h3 : decide (((a / 2 ^ s % 2 : Nat) : Int) = 0) = false := by simp; omega
    rw [h3]
    simp [h]
theorem flat_take {seq : Bool} {z : Nat} {bs : List (List R)} (h : Even seq z bs) : ∀ i, i ≤ bs.length → (bs.take i).flatten.length = i * z
  | 0, _ => by simp
  | i + 1, hi => by
    have hl : i < bs.length := by omega
    rw [List.take_add_one, List.getElem?_eq_getElem hl, List.flatten_append, List.length_append, flat_take h i (by omega), Nat.add_mul, Nat.one_mul]
    have := (h _ (List.getElem_mem hl)).1
    simp [this]
theorem flat_snoc {bs : List (List R)} {i : Nat} (hi : i < bs.length) : (bs.take (i + 1)).flatten = (bs.take i).flatten ++ blk bs i := by
  unfold blk
  rw [List.take_add_one, List.getElem?_eq_getElem hi, List.flatten_append, List.getD_eq_getElem?_getD, List.getElem?_eq_getElem hi]
  simp
structure NI (u : World) (seq : Bool) (g M c9 z : Nat) (vs : List (Option Addr × Nat × Nat)) (bs : List (List R)) (W : World) : Prop where
  own : OwnL kS 22 W u.heap.size (.slice (some ⟨g, 0, none⟩) M c9) vs
  len : vs.length = M
  tb : Tb W u.heap.size vs bs
  even : Hid (Even seq z bs)
  wf : Hid (Wf bs)
  blen : Hid (bs.length = M)
  below : Below u.heap.size u W
theorem NI.grown {u : World} {seq : Bool} {g M c9 z : Nat} {vs : List (Option Addr × Nat × Nat)} {bs : List (List R)} {W W' : World} (h : NI u seq g M c9 z vs bs W) (hb : Below W.heap.size W W') : NI u seq g M c9 z vs bs W' :=
  ⟨OwnL.below h.own hb, h.len, h.tb.below hb, h.even, h.wf, h.blen, h.below.trans (hb.mono h.below.size)⟩
set_option maxRecDepth 100000 in
set_option maxHeartbeats 32000000 in
theorem start (A : Option Addr) (n c : Nat) (rs : List R) (mb mz : Int) (seq : Bool) (u : World) (h : Recs u u.heap.size A n rs) :
    Calls Try.prog 5 #[.slice A n c, .int .i64 mb, .int .i64 mz, .bool seq] u fun e u' => e = .returned (.bool true) ∧ Below u.heap.size u u' := by
  have HL := Lib.hid h.1
  have HWA := Lib.hid h.2.1
  obtain ⟨q, hq⟩ : ∃ q, IntKind.u64.wrap mb = q := ⟨_, rfl⟩
  have hq0 : 0 ≤ q := by rw [← hq, IntKind.wrap_u64]; omega
  obtain ⟨S, hS, hS4⟩ : ∃ S : Nat, q.tmod 5 = (S : Int) ∧ S ≤ 4 := ⟨(q % 5).toNat, by rw [Int.tmod_eq_emod_of_nonneg hq0]; omega, by omega⟩
  obtain ⟨p, hp⟩ : ∃ p, IntKind.u64.wrap mz = p := ⟨_, rfl⟩
  have hp0 : 0 ≤ p := by rw [← hp, IntKind.wrap_u64]; omega
  obtain ⟨y, hy, hy3⟩ : ∃ y : Nat, p.tmod 4 = (y : Int) ∧ y ≤ 3 := ⟨(p % 4).toNat, by rw [Int.tmod_eq_emod_of_nonneg hp0]; omega, by omega⟩
  have hm5 := fun W => Held.run_rem (P := Try.prog) 35 .u64 (a := q) (b := 5) (r := (S : Int)) (by omega) hS W
  have hm4 := fun W => Held.run_rem (P := Try.prog) 35 .u64 (a := p) (b := 4) (r := (y : Int)) (by omega) hy W
  have hsh := fun W : World => show (binOp .shl 3 (.int .i64 1) (.int .u64 (S : Int))).run Try.prog W = .ok (.int .i64 ((2 ^ S : Nat) : Int)) W by
    have h := Rc.run_shl_ (P := Try.prog) 3 .i64 .u64 (a := 1) S (by show S ≤ 64; omega) W
    rw [h]
    have : S = 0 ∨ S = 1 ∨ S = 2 ∨ S = 3 ∨ S = 4 := by omega
    rcases this with rfl | rfl | rfl | rfl | rfl <;> rfl
  have hcv : IntKind.i64.wrap (y : Int) = (y : Int) := by rw [IntKind.wrap_i64]; omega
  have HQ := Lib.hid hq
  have HP := Lib.hid hp
  have HCV := Lib.hid hcv
  obtain ⟨M, hM⟩ : ∃ M, 2 ^ S = M := ⟨_, rfl⟩
  have hM16 : M ≤ 16 := by rw [← hM]; exact Nat.pow_le_pow_right (n := 2) (by omega) hS4
  have hM1 : 1 ≤ M := by rw [← hM]; exact Nat.two_pow_pos _
  have HST := Lib.hid (stg_pow hS4)
  rw [hM] at hsh HST
  have HM := Lib.hid hM
  obtain ⟨z, hz⟩ : ∃ z, y + 1 = z := ⟨_, rfl⟩
  have hz4 : 1 ≤ z ∧ z ≤ 4 := by omega
  have hzi : IntKind.i64.wrap (1 + (y : Int)) = (z : Int) := by rw [IntKind.wrap_i64]; omega
  have HZ := Lib.hid hzi
  clear hq hq0 hS hp hp0 hy hcv hM hz hzi
  go_enter Try.func5, Try.ntmps5
  go_wp2_with (first
    | (refine Held.wpList_run (w := u) rfl (v := .int .u64 q) (Held.y_convert (S := fun _ => True) rfl rfl (by kernel_rfl) Try.underlying35 HQ.out _ trivial) ?_)
    | (refine Held.wpList_run (w := u) rfl (v := .int .u64 (S : Int)) (Bi.y_rem (S := fun _ => True) q 5 rfl rfl rfl hm5 _ trivial) ?_)
    | (refine Held.wpList_run (w := u) rfl (v := .int .i64 (M : Int)) (Bi.y_shl (S := fun _ => True) 1 (S : Int) rfl rfl rfl hsh _ trivial) ?_)
    | (refine Held.wpList_run (w := u) rfl (v := .int .u64 p) (Held.y_convert (S := fun _ => True) rfl rfl (by kernel_rfl) Try.underlying35 HP.out _ trivial) ?_)
    | (refine Held.wpList_run (w := u) rfl (v := .int .u64 (y : Int)) (Bi.y_rem (S := fun _ => True) p 4 rfl rfl rfl hm4 _ trivial) ?_)
    | (refine Held.wpList_run (w := u) rfl (v := .int .i64 (y : Int)) (Held.y_convert (S := fun _ => True) rfl rfl (by kernel_rfl) Try.underlying3 HCV.out _ trivial) ?_)
    | (refine Held.wpList_run (w := u) rfl (v := .int .i64 (z : Int)) (Held.y_int (S := fun _ => True) rfl rfl rfl (Held.run_add 3 .i64 HZ.out) _ trivial) ?_))
  go_loopw [9, 10] (fun vb iv wr => ∃ (i : Nat) (vs : List (Option Addr × Nat × Nat)), i ≤ M ∧ iv = .int .i64 i ∧ OwnL kS 22 wr u.heap.size vb vs ∧ vs.length = i ∧ Tb wr u.heap.size vs (startB seq rs z i) ∧ Below u.heap.size u wr) (fun _ i _ => M - (intOf i).toNat)
  case atStart => exact ⟨0, [], by omega, rfl, OwnL.nil _ _ _ _, rfl, Tb.nil _ _, Below.refl _ _⟩
  case round =>
    obtain ⟨i, vs, hi, rfl, ho, hvl, ht, hst⟩ := hrel
    by_cases hlt : i < M
    · have hlt' : (i : Int) < (M : Int) := by omega
      have hmz : i * z ≤ 16 * 4 := Nat.mul_le_mul (by omega) hz4.2
      have hmz2 : (i + 1) * z = i * z + z := by rw [Nat.add_mul, Nat.one_mul]
      obtain ⟨iz, hiz⟩ : ∃ iz, i * z = iz := ⟨_, rfl⟩
      have HIZ := Lib.hid hiz
      rw [hiz] at hmz hmz2
      have hmul : IntKind.i64.wrap ((i : Int) * (z : Int)) = (iz : Int) := by rw [← Int.natCast_mul, hiz, IntKind.wrap_i64]; omega
      have hadd : IntKind.i64.wrap ((i : Int) + 1) = ((i + 1 : Nat) : Int) := by rw [IntKind.wrap_i64]; omega
      have hmul2 : IntKind.i64.wrap (((i + 1 : Nat) : Int) * (z : Int)) = ((iz + z : Nat) : Int) := by rw [← Int.natCast_mul, hmz2, IntKind.wrap_i64]; omega
      have HM1 := Lib.hid hmul
      have HM2 := Lib.hid hmul2
      have HA1 := Lib.hid hadd
      clear hmul hmul2 hadd hmz2 hiz
      obtain ⟨ez, hez⟩ : ∃ ez, iz + z = ez := ⟨_, rfl⟩
      rw [hez] at HM2
      go_wp2_with (refine Held.wpList_run (w := wr) rfl (v := .int .i64 (iz : Int)) (Held.y_int (S := fun _ => True) rfl rfl rfl (Held.run_mul 3 .i64 HM1.out) _ trivial) ?_)
      generalize wr = wo at *
      go_loopw [11, 12] (fun vx kv wr => ∃ j : Nat, j ≤ z ∧ kv = .int .i64 ((iz + j : Nat) : Int) ∧ OwnL kRec 26 wr wo.heap.size vx (blockOf rs z i j) ∧ Below wo.heap.size wo wr) (fun _ k _ => ez - (intOf k).toNat)
      case atStart => exact ⟨0, by omega, rfl, OwnL.nil _ _ _ _, Below.refl _ _⟩
      case round =>
        obtain ⟨j, hj, rfl, hx, hs2⟩ := hrel
        have HBL := Lib.hid (blockOf_length rs z i j)
        have HXW := Lib.hid (blockOf_wf HWA.out z i j)
        by_cases hjz : j < z
        · have HBS := Lib.hid (show blockOf rs z i (j + 1) = blockOf rs z i j ++ [recAt rs (iz + j)] by rw [blockOf_succ, HIZ.out])
          have hrw := recAt_wf HWA.out (iz + j)
          have hA : recAt rs (iz + j) = if iz + j < n then rs.getD (iz + j) R0 else RD := by unfold recAt; rw [HL.out]
          obtain ⟨k, hk⟩ : ∃ k, iz + j = k := ⟨_, rfl⟩
          rw [hk] at HBS hrw hA ⊢
          have hke : k < ez := by omega
          have hke' : (k : Int) < (ez : Int) := by omega
          have HA2 := Lib.hid (show IntKind.i64.wrap ((k : Int) + 1) = ((k + 1 : Nat) : Int) by rw [IntKind.wrap_i64]; omega)
          have HKK := Lib.hid hk
          have HEZ := Lib.hid hez
          clear hk
          by_cases hin : k < n
          · have hin' : (k : Int) < (n : Int) := by omega
            rw [if_pos hin] at hA
            obtain ⟨b, off, rfl, hb, hc⟩ := (Recs.below h (hst.trans (hs2.mono hst.size))).at_ hin
            have hc : wr.rangeAt b (off + k * 4) (recAt rs k).cells := by rw [hA]; exact hc
            generalize recAt rs k = x at hc HBS hrw
            clear hA
            go_wp2_with (first
              | (refine Held.wpList_run (w := wr) rfl (v := .int .i64 ((i + 1 : Nat) : Int)) (Held.y_int (S := fun _ => True) rfl rfl rfl (Held.run_add 3 .i64 HA1.out) _ trivial) ?_)
              | (refine Held.wpList_run (w := wr) rfl (v := .int .i64 (ez : Int)) (Held.y_int (S := fun _ => True) rfl rfl rfl (Held.run_mul 3 .i64 HM2.out) _ trivial) ?_)
              | (refine Held.wpList_run (w := wr) rfl (v := .pointer (some ⟨b, off + k * 4, none⟩)) (Held.y_addr (S := fun _ => True) rfl rfl rfl (run_addr_of 22 26 b off n c k 4 .i64 Try.underlying22 (by kernel_rfl) hin) _ trivial) ?_)
              | (refine Held.wpList_run (w := wr) rfl (v := .agg #[.bool x.d, .int .i64 x.k, .int .i64 x.v, .int .i64 x.s]) (y_load_range (S := fun W => W = wr) (n := 4) (cs := x.cells) rfl rfl Try.underlying26 rfl (by kernel_rfl) rfl (fun W hW => by rw [hW]; exact hc) _ rfl) ?_)
              | (refine wpList_build_recL (w := wr) rfl _ rfl x rfl hrw ?_; intro w1 l1 g1; have o1 := OwnL.kept hx g1 (by cases u11.ownBlock <;> simp); have b1 : Below wo.heap.size wo w1 := hs2.grown g1 hs2.size (by simp))
              | (at_builtin; refine wpList_append_all (k := kRec) (w := w1) rfl _ _ 22 26 rfl Try.underlying22 _ 32 info_kRec rfl wo.heap.size w1.heap.size 1 1 (some ⟨wr.heap.size, 0, none⟩) u11 _ [x] rfl rfl o1 l1 (by rw [HBL.out]; omega) (by omega) b1.size ?_; intro v2 w2 o2 g2 m2; have b2 : Below wo.heap.size wo w2 := b1.grown g2 b1.size (fun r e => (OwnL.lt o1 r e).1))
              | (refine Held.wpList_run (w := w2) rfl (v := .int .i64 ((k + 1 : Nat) : Int)) (Held.y_int (S := fun _ => True) rfl rfl rfl (Held.run_add 3 .i64 HA2.out) _ trivial) ?_))
            rw [← HBS.out] at o2
            go_roundw
            case rel => exact ⟨j + 1, by omega, by rw [← HKK.out]; rfl, o2, b2⟩
            case measure => simp [intOf]; omega
          · have hin' : ¬ (k : Int) < (n : Int) := by omega
            rw [if_neg hin] at hA
            rw [hA] at HBS
            clear hA hrw
            go_wp2_with (first
              | (refine Held.wpList_run (w := wr) rfl (v := .int .i64 ((i + 1 : Nat) : Int)) (Held.y_int (S := fun _ => True) rfl rfl rfl (Held.run_add 3 .i64 HA1.out) _ trivial) ?_)
              | (refine Held.wpList_run (w := wr) rfl (v := .int .i64 (ez : Int)) (Held.y_int (S := fun _ => True) rfl rfl rfl (Held.run_mul 3 .i64 HM2.out) _ trivial) ?_)
              | (refine wpList_build_blk rfl 26 #[(0, .const (.bool true))] rfl #[.bool true, .int .i64 0, .int .i64 0, .int .i64 0] (by kernel_rfl) ?_)
              | (refine wpList_build_recL (w := wr) rfl _ rfl RD rfl ⟨rfl, rfl, rfl⟩ ?_; intro w1 l1 g1; have o1 := OwnL.kept hx g1 (by cases u11.ownBlock <;> simp); have b1 : Below wo.heap.size wo w1 := hs2.grown g1 hs2.size (by simp))
              | (at_builtin; refine wpList_append_all (k := kRec) (w := w1) rfl _ _ 22 26 rfl Try.underlying22 _ 32 info_kRec rfl wo.heap.size w1.heap.size 1 1 (some ⟨wr.heap.size, 0, none⟩) u11 _ [RD] rfl rfl o1 l1 (by rw [HBL.out]; omega) (by omega) b1.size ?_; intro v2 w2 o2 g2 m2; have b2 : Below wo.heap.size wo w2 := b1.grown g2 b1.size (fun r e => (OwnL.lt o1 r e).1))
              | (refine Held.wpList_run (w := w2) rfl (v := .int .i64 ((k + 1 : Nat) : Int)) (Held.y_int (S := fun _ => True) rfl rfl rfl (Held.run_add 3 .i64 HA2.out) _ trivial) ?_))
            rw [← HBS.out] at o2
            go_roundw
            case rel => exact ⟨j + 1, by omega, by rw [← HKK.out]; rfl, o2, b2⟩
            case measure => simp [intOf]; omega
        · obtain rfl : j = z := by omega
          rw [hez]
          have hnlt : ¬ (ez : Int) < (ez : Int) := by omega
          have HBB := Lib.hid (startB_succ seq rs j i)
          generalize blockOf rs j i j = X at hx HBL HXW HBB
          have HSL := Lib.hid (show (sortR seq X).length = j by rw [sortR_length]; exact HBL.out)
          obtain ⟨A1, n1, c1, rfl, hn1, _⟩ := OwnL.form2 hx
          obtain rfl : j = n1 := hn1.out.symm.trans HBL.out |>.symm
          have lx := OwnL.lst hx HXW.out
          clear hx hn1
          go_wp2_with (first
            | (refine Held.wpList_run (w := wr) rfl (v := .int .i64 ((i + 1 : Nat) : Int)) (Held.y_int (S := fun _ => True) rfl rfl rfl (Held.run_add 3 .i64 HA1.out) _ trivial) ?_)
            | (refine Held.wpList_run (w := wr) rfl (v := .int .i64 (ez : Int)) (Held.y_int (S := fun _ => True) rfl rfl rfl (Held.run_mul 3 .i64 HM2.out) _ trivial) ?_))
          refine (sort_any wr.heap.size A1 j c1 X seq wr lx (Nat.le_refl _) (by omega)).mono ?_
          rintro e w1 ⟨v, rfl, o6, b6⟩
          obtain ⟨A6, n6, c6, rfl, hn6, _⟩ := OwnL.form2 o6
          obtain rfl : j = n6 := hn6.out.symm.trans HSL.out |>.symm
          have o6 := OwnL.less o6 (Nat.le_trans hst.size hs2.size)
          have b6 := hs2.trans (b6.mono hs2.size)
          clear lx hs2 hn6
          go_wp2_with (first
            | (refine wpList_build_slot (w := w1) rfl _ rfl (A6, j, c6) rfl ?_; intro w2 l2 g2; have b2 : Below wo.heap.size wo w2 := b6.grown g2 b6.size (by simp); have o9 := OwnL.below ho b2; have t2 := (ht.below b2).snoc (p := (A6, j, c6)) (own_new o6 g2 (fun r e => by cases e)))
            | (at_builtin; refine wpList_append_all (k := kS) (w := w2) rfl _ _ 36 22 rfl Try.underlying36 _ 24 info_kS rfl u.heap.size w2.heap.size 1 1 (some ⟨w1.heap.size, 0, none⟩) u9 vs [(A6, j, c6)] rfl rfl o9 l2 (by omega) (by omega) (Nat.le_trans hst.size b2.size) ?_; intro v3 w3 o3 g3 m3))
          have t3 := t2.grown g3 (fun r e => own_cells o9 e)
          rw [← HBB.out] at t3
          have b3 : Below u.heap.size u w3 := (hst.trans (b2.mono hst.size)).grown g3 (Nat.le_trans hst.size b2.size) (fun r e => (OwnL.lt o9 r e).1)
          go_roundw
          case rel => exact ⟨i + 1, _, by omega, by go_num, o3, by simp [hvl], t3, b3⟩
          case measure => simp [intOf]; omega
    · obtain rfl : i = M := by omega
      obtain ⟨M, hMi⟩ : ∃ M, M = i := ⟨_, rfl⟩
      subst hMi
      obtain ⟨A9, n9, c9, rfl, hn9, _⟩ := OwnL.form2 ho
      obtain rfl : M = n9 := hn9.out.symm.trans hvl |>.symm
      obtain ⟨g, rfl, hg0, hgw, _⟩ := own_at0 ho (by omega)
      have hNI : NI u seq g M c9 z vs (startB seq rs z M) wr := ⟨ho, hvl, ht, Lib.hid (startB_even seq rs z M), Lib.hid (startB_wf HWA.out seq z M), Lib.hid (startB_length seq rs z M), hst⟩
      have HE0 := Lib.hid (startB_even seq rs z M)
      have HL0 := Lib.hid (startB_length seq rs z M)
      generalize startB seq rs z M = bs0 at hNI HE0 HL0
      clear ho hvl ht hst hn9 hsh hm5 hm4
      go_wp2_with fail
      obtain ⟨K, hK⟩ : ∃ K, Bi.tri S = K := ⟨_, rfl⟩
      have hK10 : K ≤ 10 := by
        rw [← hK]
        have : S = 0 ∨ S = 1 ∨ S = 2 ∨ S = 3 ∨ S = 4 := by omega
        rcases this with rfl | rfl | rfl | rfl | rfl <;> decide
      have HKK := Lib.hid hK
      clear hK
      go_loopw [13] (fun rv wr => ∃ (r : Nat) (vs : List (Option Addr × Nat × Nat)) (bs : List (List R)) (sch : List (Nat × Nat)), r ≤ K ∧ rv = .int .i64 r ∧ NI u seq g M c9 z vs bs wr ∧ Hid (sch.length = r) ∧ Hid (∀ i, i < r → Bi.Stp S (i : Int) (sch.getD i (0, 0)).1 (sch.getD i (0, 0)).2) ∧ Hid (bs = sch.foldl (roundB seq M) bs0)) (fun r _ => K - (intOf r).toNat)
      case atStart => exact ⟨0, vs, bs0, [], by omega, rfl, hNI, Lib.hid rfl, Lib.hid (fun i hi => absurd hi (by omega)), Lib.hid rfl⟩
      case round =>
        clear hNI
        obtain ⟨r, vs, bs, sch, hr, rfl, hN, hsl, hst2, hbs⟩ := hrel
        have hround := Bi.rrounds_any (M : Int) wr (by omega) (by omega)
        rw [HST.out, HKK.out] at hround
        by_cases hrk : r < K
        · have hrk' : (r : Int) < (K : Int) := by omega
          go_wp2_with fail
          refine hround.mono ?_
          rintro e w1 ⟨rfl, rfl⟩
          clear hround
          obtain ⟨s, t, ok, hF⟩ := Bi.found_exists S (r : Int)
          have hok : ok = true := by
            rcases hF with ⟨e, _⟩ | ⟨_, _, _, e⟩
            · exact e
            · exact absurd ⟨by omega, by rw [HKK.out]; omega⟩ e
          subst hok
          have HSTP := Lib.hid (show Bi.Stp S (r : Int) s t by
            rcases hF with ⟨_, e⟩ | ⟨e, _⟩
            · exact e
            · cases e)
          have hF : Bi.Found (Bi.stg (M : Int)) (r : Int) s t true := by rw [HST.out]; exact hF
          have hup := fun (a : Nat) (W : World) (ha : a ≤ 100) => Bi.rup_any (M : Int) (r : Int) (a : Int) s t true W (by omega) (by omega) (by omega) (by omega) hF
          have hro := Bi.rround_own (M : Int) (r : Int) s t true wr (by omega) (by omega) hF
          rw [if_pos rfl] at hro
          obtain ⟨k1, k2, k3, k4⟩ := HSTP.out
          obtain ⟨d, hd⟩ : ∃ d : Nat, 2 ^ (t - 1) = d := ⟨_, rfl⟩
          have hd1 : 1 ≤ d := by rw [← hd]; exact Nat.two_pow_pos _
          have hdM : d ≤ 16 := by rw [← hd]; exact Nat.pow_le_pow_right (n := 2) (by omega) (show t - 1 ≤ 4 by omega)
          have hps : Bi.pairsOf (M : Int) t true = Net.firsts d M := by rw [← HM.out, ← Bi.two_nat, Bi.pairs_pow (by omega), hd]
          have hdi : (2 : Int) ^ (t - 1) = (d : Int) := by rw [Bi.two_nat, hd]
          rw [hps, hdi] at hro
          have HPL := Lib.hid (fun a (ha : a ∈ Net.firsts d M) => show a + d < M from by
            have := Bi.pair_lt (S := S) k1 (by omega) (a := a) (by rw [hd, HM.out]; exact ha)
            rwa [hd, HM.out] at this)
          have HPB := Lib.hid (fun a (ha : a ∈ Net.firsts d M) => show a / 2 ^ (t - 1) % 2 = 0 by rw [hd]; exact (Bi.mem_firsts.1 ha).2)
          have HRB := Lib.hid (show roundB seq M bs (s, t) = (Net.firsts d M).foldl (splitB seq d (Net.ups s)) bs by unfold roundB; rw [hd])
          have HXG := Lib.hid (fun i => Bi.xsOf_get (Net.firsts d M) i)
          have hPM : (Net.firsts d M).length ≤ M := Bi.firsts_length_le d M
          generalize Net.firsts d M = ps at hro HPL HPB HRB HXG hPM
          obtain ⟨P, hP⟩ : ∃ P, ps.length = P := ⟨_, rfl⟩
          rw [hP] at hro hPM
          have HPP := Lib.hid hP
          clear hps hdi k1 k2 k3 k4 hd hP hF
          go_wp2_with fail
          refine hro.mono ?_
          rintro e wf ⟨Af, cf, rfl, hfo, bf⟩
          have hfo := Mem.Own.less hfo hN.below.size
          have hN := hN.grown bf
          clear hro bf
          go_wp2_with fail
          go_loopw [16] (fun iv wr => ∃ (i : Nat) (vs : List (Option Addr × Nat × Nat)) (bs1 : List (List R)), i ≤ P ∧ iv = .int .i64 i ∧ NI u seq g M c9 z vs bs1 wr ∧ Mem.Own wr u.heap.size 3 .i64 (.slice Af P cf) (Bi.xsOf ps) ∧ Hid (bs1 = (ps.take i).foldl (splitB seq d (Net.ups s)) bs)) (fun i _ => P - (intOf i).toNat)
          case atStart => exact ⟨0, vs, bs, by omega, rfl, hN, hfo, Lib.hid rfl⟩
          case round =>
            clear hN hfo
            obtain ⟨i, vs, bs1, hi, rfl, hN, hfo, hb1⟩ := hrel
            by_cases hiP : i < P
            · have hiP' : (i : Int) < (P : Int) := by omega
              obtain ⟨bF, oF, rfl, hbF, hcF⟩ := (Mem.Own.ints hfo (by simp [Bi.xsOf, HPP.out])).at_ hiP
              rw [HXG.out i] at hcF
              have hmem : ps.getD i 0 ∈ ps := Bi.getD_mem (by rw [HPP.out]; exact hiP)
              have had := HPL.out _ hmem
              have hab := HPB.out _ hmem
              have HTS := Lib.hid (show (ps.take (i + 1)).foldl (splitB seq d (Net.ups s)) bs = splitB seq d (Net.ups s) ((ps.take i).foldl (splitB seq d (Net.ups s)) bs) (ps.getD i 0) by
                have hl : i < ps.length := by rw [HPP.out]; exact hiP
                rw [List.take_add_one, List.getElem?_eq_getElem hl, List.foldl_append, List.getD_eq_getElem?_getD, List.getElem?_eq_getElem hl]
                rfl)
              rw [← hb1.out] at HTS
              generalize ps.getD i 0 = a at hcF hmem had hab HTS
              have haM : a < M := by omega
              have hxs := hN.blen.out
              have hlv := hN.len
              obtain ⟨ca, hgr⟩ := slot_cell hN.own haM
              obtain ⟨cb, _⟩ := slot_cell hN.own had
              have oX := hN.tb.2 a (by omega)
              have oY := hN.tb.2 (a + d) (by omega)
              obtain ⟨hXl, hXs⟩ := hN.even.out _ (blk_mem (bs := bs1) (a := a) (by omega))
              obtain ⟨hYl, hYs⟩ := hN.even.out _ (blk_mem (bs := bs1) (a := a + d) (by omega))
              have hXw := hN.wf.out _ (blk_mem (bs := bs1) (a := a) (by omega))
              have hYw := hN.wf.out _ (blk_mem (bs := bs1) (a := a + d) (by omega))
              have oX : OwnL kRec 26 wr u.heap.size (slV (vs.getD a kS.d)) (blk bs1 a) := oX
              have oY : OwnL kRec 26 wr u.heap.size (slV (vs.getD (a + d) kS.d)) (blk bs1 (a + d)) := oY
              obtain ⟨⟨A1, n1, c1⟩, hp1⟩ : ∃ p, vs.getD a kS.d = p := ⟨_, rfl⟩
              obtain ⟨⟨A2, n2, c2⟩, hp2⟩ : ∃ p, vs.getD (a + d) kS.d = p := ⟨_, rfl⟩
              rw [hp1] at oX ca
              rw [hp2] at oY cb
              have lX := OwnL.lst (A := A1) (n := n1) (c := c1) oX hXw
              have lY := OwnL.lst (A := A2) (n := n2) (c := c2) oY hYw
              obtain rfl : z = n1 := hXl.symm.trans lX.1
              obtain rfl : z = n2 := hYl.symm.trans lY.1
              have ca : wr.cell? ⟨g, 0 + a, none⟩ = some (.slice A1 z c1) := by rw [Nat.zero_add]; exact ca
              have cb : wr.cell? ⟨g, 0 + (a + d), none⟩ = some (.slice A2 z c2) := by rw [Nat.zero_add]; exact cb
              have HSP := Lib.hid (show splitB seq d (Net.ups s) bs1 a = (bs1.set a (if Net.ups s a then (sortR seq (blk bs1 a ++ blk bs1 (a + d))).take (blk bs1 a).length else (sortR seq (blk bs1 a ++ blk bs1 (a + d))).drop (blk bs1 a).length)).set (a + d) (if Net.ups s a then (sortR seq (blk bs1 a ++ blk bs1 (a + d))).drop (blk bs1 a).length else (sortR seq (blk bs1 a ++ blk bs1 (a + d))).take (blk bs1 a).length) from rfl)
              have HEV := Lib.hid (Even.split seq (up := Net.ups s) hN.even.out (a := a) (d := d) (by omega))
              have HWF := Lib.hid (Wf.split (seq := seq) (up := Net.ups s) hN.wf.out (a := a) (d := d) (by omega))
              have HBN := Lib.hid (show (splitB seq d (Net.ups s) bs1 a).length = M by rw [splitB_length]; exact hxs)
              have HLT := Lib.hid (show (sortR seq (blk bs1 a ++ blk bs1 (a + d))).length = z + z by rw [sortR_length, List.length_append, hXl, hYl])
              have HAD := Lib.hid (show IntKind.i64.wrap ((a : Int) + (d : Int)) = ((a + d : Nat) : Int) by rw [IntKind.wrap_i64]; omega)
              have HUP := Lib.hid (fun W => hup a W (by omega))
              have HUV := Lib.hid (upV_is (s := s) (t := t) haM hab)
              have HXL := Lib.hid hXl
              generalize blk bs1 a = X at lX HSP HXL HLT
              generalize blk bs1 (a + d) = Y at lY HSP HLT
              clear hXl hXs hYl hYs hXw hYw hp1 hp2 hmem hab hxs
              go_wp2_with fail
              refine wp_region_held (S := fun W => Below wr.heap.size wr W) (by kernel_rfl) ?_
              change wpAnyH _ _ _ _ _ _ _ _ wr.drew
              have c0_0 := (Below.refl wr.heap.size wr).drew
              refine Held.tk (v := .slice (some ⟨g, 0, none⟩) M c9) 0 (some 91) rfl (Held.y_move rfl rfl) c0_0 ?_
              simp only [Act.put, Z1, Z2, Z3]
              refine Held.tk (v := .int .i64 (a : Int)) 1 (some 92) rfl (Held.y_move rfl rfl) c0_0 ?_
              simp only [Act.put, Z1, Z2, Z3]
              refine Held.tk (v := .pointer (some ⟨g, 0 + a, none⟩)) 2 (some 93) rfl (Held.y_addr rfl rfl rfl (run_addr_slice 36 22 g 0 M c9 a .i64 Try.underlying36 (by kernel_rfl) haM)) c0_0 ?_
              simp only [Act.put, Z1, Z2, Z3]
              refine Held.tk (v := .slice A1 z c1) 3 (some 94) rfl (Held.y_load rfl rfl (by kernel_rfl) (fun W hW => (hW.cell (p := ⟨g, 0 + a, none⟩) hgr).trans ca)) c0_0 ?_
              simp only [Act.put, Z1, Z2, Z3]
              refine Held.tk (v := .slice (some ⟨g, 0, none⟩) M c9) 4 (some 95) rfl (Held.y_move rfl rfl) c0_0 ?_
              simp only [Act.put, Z1, Z2, Z3]
              refine Held.tk (v := .int .i64 (a : Int)) 5 (some 96) rfl (Held.y_move rfl rfl) c0_0 ?_
              simp only [Act.put, Z1, Z2, Z3]
              refine Held.tk (v := .int .i64 (d : Int)) 6 (some 97) rfl (Held.y_move rfl rfl) c0_0 ?_
              simp only [Act.put, Z1, Z2, Z3]
              refine Held.tk (v := .int .i64 ((a + d : Nat) : Int)) 7 (some 98) rfl (Held.y_int rfl rfl rfl (Held.run_add 3 .i64 HAD.out)) c0_0 ?_
              simp only [Act.put, Z1, Z2, Z3]
              refine Held.tk (v := .pointer (some ⟨g, 0 + (a + d), none⟩)) 8 (some 99) rfl (Held.y_addr rfl rfl rfl (run_addr_slice 36 22 g 0 M c9 (a + d) .i64 Try.underlying36 (by kernel_rfl) had)) c0_0 ?_
              simp only [Act.put, Z1, Z2, Z3]
              refine Held.tk (v := .slice A2 z c2) 9 (some 100) rfl (Held.y_load rfl rfl (by kernel_rfl) (fun W hW => (hW.cell (p := ⟨g, 0 + (a + d), none⟩) hgr).trans cb)) c0_0 ?_
              simp only [Act.put, Z1, Z2, Z3]
              refine Held.tk (v := .bool seq) 10 (some 101) rfl (Held.y_move rfl rfl) c0_0 ?_
              simp only [Act.put, Z1, Z2, Z3]
              refine Held.one 11 (by kernel_rfl) ?_
              refine Held.op_call 11 (some 102) 10 #[.slice A1 z c1, .slice A2 z c2, .bool seq] rfl rfl rfl rfl (enters_of Try.func10 (by kernel_rfl) rfl) (by simp [Act.eval])
                (split_any wr.heap.size wr.heap.size A1 A2 z c1 z c2 X Y seq _ (Lst.below lX c0_0) (Lst.below lY c0_0) c0_0.size c0_0.size (by omega) (by omega)) ?_
              rintro e w1 ⟨v, v2, rfl, o1, o2, b1⟩
              have c0_1 := c0_0.trans (b1.mono c0_0.size)
              refine ⟨_, rfl, c0_1, ?_⟩
              simp only [Act.put, Z1, Z2, Z3]
              refine Held.tk (v := .tuple #[v, v2]) 12 (some 90) rfl (Held.y_move rfl rfl) c0_1 ?_
              simp only [Act.put, Z1, Z2, Z3]
              refine Held.tk (v := v) 13 (some 103) rfl (Held.y_extract rfl rfl rfl) c0_1 ?_
              simp only [Act.put, Z1, Z2, Z3]
              refine Held.tk (v := v2) 14 (some 104) rfl (Held.y_extract rfl rfl rfl) c0_1 ?_
              simp only [Act.put, Z1, Z2, Z3]
              refine Held.tk (v := v) 15 (some 18) rfl (Held.y_assign rfl rfl) c0_1 ?_
              simp only [Act.put, Z1, Z2, Z3]
              refine Held.tk (v := v2) 16 (some 19) rfl (Held.y_assign rfl rfl) c0_1 ?_
              simp only [Act.put, Z1, Z2, Z3]
              refine wpAnyH_done (by kernel_rfl) ?_ _
              have hN1 := hN.grown c0_1
              have hfo1 := Mem.Own.below hfo c0_1
              have o1 := OwnL.less o1 (Nat.le_trans hN.below.size c0_0.size)
              have o2 := OwnL.less o2 (Nat.le_trans hN.below.size c0_0.size)
              obtain ⟨Al, n1, cl, rfl, hn1, _⟩ := OwnL.form2 o1
              obtain rfl : z = n1 := by have := hn1.out; rw [List.length_take, HLT.out, HXL.out] at this; omega
              obtain ⟨Ah, n2, ch, rfl, hn2, _⟩ := OwnL.form2 o2
              obtain rfl : z = n2 := by have := hn2.out; rw [List.length_drop, HLT.out, HXL.out] at this; omega
              have had1 : ∀ W : World, (Instr.indexAt 36 (.slice (some ⟨g, 0, none⟩) M c9) (.int .i64 (a : Int))).run Try.prog W = .ok (.pointer (some ⟨g, a, none⟩)) W := fun W => by
                have := run_addr_slice (P := Try.prog) 36 22 g 0 M c9 a .i64 Try.underlying36 (by kernel_rfl) haM W
                rwa [Nat.zero_add] at this
              have had2 : ∀ W : World, (Instr.indexAt 36 (.slice (some ⟨g, 0, none⟩) M c9) (.int .i64 ((a + d : Nat) : Int))).run Try.prog W = .ok (.pointer (some ⟨g, a + d, none⟩)) W := fun W => by
                have := run_addr_slice (P := Try.prog) 36 22 g 0 M c9 (a + d) .i64 Try.underlying36 (by kernel_rfl) had W
                rwa [Nat.zero_add] at this
              have hfg : ∀ (W : World) {vs' : List (Option Addr × Nat × Nat)}, Mem.Own W u.heap.size 3 .i64 (.slice (some ⟨bF, oF, none⟩) P cf) (Bi.xsOf ps) → OwnL kS 22 W u.heap.size (.slice (some ⟨g, 0, none⟩) M c9) vs' → (Value.slice (some ⟨bF, oF, none⟩) P cf).ownBlock = none ∨ (Value.slice (some ⟨bF, oF, none⟩) P cf).ownBlock ≠ some g := fun W vs' hf ho => .inr fun e => by
                obtain ⟨cs, fz, h1⟩ := Bi.own_obj hf e
                obtain ⟨cs2, h2⟩ := own_cells ho (b := g) rfl
                rw [h2] at h1
                injection h1 with h1
                injection h1 with _ h1
                exact absurd h1 (by decide)
              clear hn1 hn2 ca cb lX lY b1 hcF hfo hN
              go_wp2_with fail
              refine (HUP.out w1).mono ?_
              rintro e w2 ⟨rfl, rfl⟩
              rw [HUV.out]
              cases hu : Net.ups s a with
              | true =>
                rw [hu] at HSP
                have HSP := Lib.hid (show splitB seq d (Net.ups s) bs1 a = (bs1.set a (List.take X.length (sortR seq (X ++ Y)))).set (a + d) (List.drop X.length (sortR seq (X ++ Y))) from HSP.out)
                have T3 := (hN1.tb.set (j := a) (p := (Al, z, cl)) (by omega) o1).set (j := a + d) (p := (Ah, z, ch)) (by rw [List.length_set]; omega) o2
                rw [← HSP.out] at T3
                clear HSP hu
                go_wp2_with (first
                  | (refine Held.wpList_run (w := w1) rfl (v := .int .i64 ((a + d : Nat) : Int)) (Held.y_int (S := fun _ => True) rfl rfl rfl (Held.run_add 3 .i64 HAD.out) _ trivial) ?_)
                  | (refine Held.wpList_run (w := w1) rfl (v := .pointer (some ⟨g, a, none⟩)) (Held.y_addr (S := fun _ => True) rfl rfl rfl had1 _ trivial) ?_)
                  | (refine wpList_store_slot (w := w1) rfl _ _ rfl u.heap.size g M c9 a vs (Al, z, cl) rfl rfl hN1.own (by omega) ?_; intro w3 o3 g3)
                  | (refine Held.wpList_run (w := w3) rfl (v := .pointer (some ⟨g, a + d, none⟩)) (Held.y_addr (S := fun _ => True) rfl rfl rfl had2 _ trivial) ?_)
                  | (refine wpList_store_slot (w := w3) rfl _ _ rfl u.heap.size g M c9 (a + d) (vs.set a (Al, z, cl)) (Ah, z, ch) rfl rfl o3 (by rw [List.length_set]; omega) ?_; intro w4 o4 g4))
                have T4 := (T3.grown g3 (fun r e => own_cells hN1.own e)).grown g4 (fun r e => own_cells o3 e)
                have f3 := Mem.Own.kept hfo1 g3 (hfg w1 hfo1 hN1.own)
                have f4 := Mem.Own.kept f3 g4 (hfg w3 f3 o3)
                have b4 := (hN1.below.grown g3 hN1.below.size (fun r e => by cases e; exact hg0)).grown g4 (Nat.le_trans hN1.below.size g3.size) (fun r e => by cases e; exact hg0)
                go_roundw
                case rel => exact ⟨i + 1, _, _, by omega, by go_num, ⟨o4, by rw [List.length_set, List.length_set]; exact hlv, T4, HEV, HWF, HBN, b4⟩, f4, Lib.hid HTS.out.symm⟩
                case measure => simp [intOf]; omega
              | false =>
                rw [hu] at HSP
                have HSP := Lib.hid (show splitB seq d (Net.ups s) bs1 a = (bs1.set a (List.drop X.length (sortR seq (X ++ Y)))).set (a + d) (List.take X.length (sortR seq (X ++ Y))) from HSP.out)
                have T3 := (hN1.tb.set (j := a) (p := (Ah, z, ch)) (by omega) o2).set (j := a + d) (p := (Al, z, cl)) (by rw [List.length_set]; omega) o1
                rw [← HSP.out] at T3
                clear HSP hu
                go_wp2_with (first
                  | (refine Held.wpList_run (w := w1) rfl (v := .int .i64 ((a + d : Nat) : Int)) (Held.y_int (S := fun _ => True) rfl rfl rfl (Held.run_add 3 .i64 HAD.out) _ trivial) ?_)
                  | (refine Held.wpList_run (w := w1) rfl (v := .pointer (some ⟨g, a, none⟩)) (Held.y_addr (S := fun _ => True) rfl rfl rfl had1 _ trivial) ?_)
                  | (refine wpList_store_slot (w := w1) rfl _ _ rfl u.heap.size g M c9 a vs (Ah, z, ch) rfl rfl hN1.own (by omega) ?_; intro w3 o3 g3)
                  | (refine Held.wpList_run (w := w3) rfl (v := .pointer (some ⟨g, a + d, none⟩)) (Held.y_addr (S := fun _ => True) rfl rfl rfl had2 _ trivial) ?_)
                  | (refine wpList_store_slot (w := w3) rfl _ _ rfl u.heap.size g M c9 (a + d) (vs.set a (Ah, z, ch)) (Al, z, cl) rfl rfl o3 (by rw [List.length_set]; omega) ?_; intro w4 o4 g4))
                have T4 := (T3.grown g3 (fun r e => own_cells hN1.own e)).grown g4 (fun r e => own_cells o3 e)
                have f3 := Mem.Own.kept hfo1 g3 (hfg w1 hfo1 hN1.own)
                have f4 := Mem.Own.kept f3 g4 (hfg w3 f3 o3)
                have b4 := (hN1.below.grown g3 hN1.below.size (fun r e => by cases e; exact hg0)).grown g4 (Nat.le_trans hN1.below.size g3.size) (fun r e => by cases e; exact hg0)
                go_roundw
                case rel => exact ⟨i + 1, _, _, by omega, by go_num, ⟨o4, by rw [List.length_set, List.length_set]; exact hlv, T4, HEV, HWF, HBN, b4⟩, f4, Lib.hid HTS.out.symm⟩
                case measure => simp [intOf]; omega
            · obtain rfl : P = i := by omega
              have hE : bs1 = roundB seq M bs (s, t) := by rw [hb1.out, HRB.out, List.take_of_length_le (by rw [HPP.out]; exact Nat.le_refl _)]
              have HN1 := Lib.hid (show (sch ++ [(s, t)]).length = r + 1 by rw [List.length_append, hsl.out]; rfl)
              have HN2 := Lib.hid (show ∀ i, i < r + 1 → Bi.Stp S (i : Int) ((sch ++ [(s, t)]).getD i (0, 0)).1 ((sch ++ [(s, t)]).getD i (0, 0)).2 from fun i hi => by
                by_cases hir : i < r
                · have := hst2.out i hir
                  simp only [List.getD_eq_getElem?_getD] at this ⊢
                  rw [List.getElem?_append_left (by rw [hsl.out]; exact hir)]
                  exact this
                · obtain rfl : i = r := by omega
                  simp only [List.getD_eq_getElem?_getD]
                  rw [List.getElem?_append_right (by rw [hsl.out]; exact Nat.le_refl _), hsl.out, Nat.sub_self]
                  exact HSTP.out)
              have HN3 := Lib.hid (show bs1 = (sch ++ [(s, t)]).foldl (roundB seq M) bs0 by rw [List.foldl_append, ← hbs.out]; exact hE)
              clear hE
              go_wp2_with fail
              go_roundw
              case rel => exact ⟨r + 1, vs, bs1, _, by omega, by go_num, hN, HN1, HN2, HN3⟩
              case measure => simp [intOf]; omega
        · obtain rfl : K = r := by omega
          have HSF := Lib.hid (show Srt seq bs.flatten by
            rw [hbs.out, ← HM.out]
            exact run_sorts seq (by omega) (by rw [hsl.out, HKK.out]) (fun i hi => hst2.out i (by rw [hsl.out] at hi; exact hi)) HE0.out (by rw [HL0.out, HM.out]))
          clear hst2 hbs hsl
          go_wp2_with fail
          refine hround.mono ?_
          rintro e w1 ⟨rfl, rfl⟩
          clear hround
          go_wp2_with fail
          have hwo : u.heap.size ≤ wr.heap.size := hN.below.size
          obtain ⟨wo, hwe⟩ : ∃ wo, wo = wr := ⟨_, rfl⟩
          rw [← hwe] at hN hwo ⊢
          clear hwe
          go_loopw [20, 21] (fun va iv wr => ∃ i : Nat, i ≤ M ∧ iv = .int .i64 i ∧ OwnL kRec 26 wr wo.heap.size va (bs.take i).flatten ∧ Below wo.heap.size wo wr) (fun _ i _ => M - (intOf i).toNat)
          case atStart => exact ⟨0, by omega, rfl, OwnL.nil _ _ _ _, Below.refl _ _⟩
          case round =>
            obtain ⟨i, hi, rfl, ho, hst⟩ := hrel
            have HFT := Lib.hid (flat_take hN.even.out i (by rw [hN.blen.out]; exact hi))
            by_cases hiM : i < M
            · have hiM' : (i : Int) < (M : Int) := by omega
              have hN1 := hN.grown hst
              have hlv := hN1.len
              obtain ⟨ca, hgr⟩ := slot_cell hN1.own hiM
              have oX : OwnL kRec 26 wr u.heap.size (slV (vs.getD i kS.d)) (blk bs i) := hN1.tb.2 i (by omega)
              obtain ⟨hXl, _⟩ := hN.even.out _ (blk_mem (bs := bs) (a := i) (by rw [hN.blen.out]; exact hiM))
              have hXw := hN.wf.out _ (blk_mem (bs := bs) (a := i) (by rw [hN.blen.out]; exact hiM))
              obtain ⟨⟨A1, n1, c1⟩, hp1⟩ : ∃ p, vs.getD i kS.d = p := ⟨_, rfl⟩
              rw [hp1] at oX ca
              have lX := OwnL.lst (A := A1) (n := n1) (c := c1) oX hXw
              obtain rfl : z = n1 := hXl.symm.trans lX.1
              have ca : wr.cell? ⟨g, i, none⟩ = some (.slice A1 z c1) := ca
              have HFS := Lib.hid (flat_snoc (bs := bs) (i := i) (by rw [hN.blen.out]; exact hiM))
              have hiz : i * z ≤ 16 * 4 := Nat.mul_le_mul (by omega) hz4.2
              have had1 : ∀ W : World, (Instr.indexAt 36 (.slice (some ⟨g, 0, none⟩) M c9) (.int .i64 (i : Int))).run Try.prog W = .ok (.pointer (some ⟨g, i, none⟩)) W := fun W => by
                have := run_addr_slice (P := Try.prog) 36 22 g 0 M c9 i .i64 Try.underlying36 (by kernel_rfl) hiM W
                rwa [Nat.zero_add] at this
              have hb1 := hst.size
              clear hXl hXw hp1 oX
              go_wp2_with (first
                | (refine Held.wpList_run (w := wr) rfl (v := .pointer (some ⟨g, i, none⟩)) (Held.y_addr (S := fun _ => True) rfl rfl rfl had1 _ trivial) ?_)
                | (at_builtin; refine wpList_append_all (k := kRec) (w := wr) rfl _ _ 22 26 rfl Try.underlying22 _ 32 info_kRec rfl wo.heap.size wr.heap.size z c1 A1 u20 _ (blk bs i) rfl rfl ho lX (by rw [HFT.out]; omega) (by omega) hb1 ?_; intro v2 w2 o2 g2 m2))
              rw [← HFS.out] at o2
              have b2 : Below wo.heap.size wo w2 := hst.grown g2 hb1 (fun r e => (OwnL.lt ho r e).1)
              go_roundw
              case rel => exact ⟨i + 1, by omega, by go_num, o2, b2⟩
              case measure => simp [intOf]; omega
            · obtain rfl : M = i := by omega
              have hall : bs.take M = bs := List.take_of_length_le (by rw [hN.blen.out]; exact Nat.le_refl _)
              rw [hall] at ho HFT
              have HSB := Lib.hid (show srtB seq bs.flatten = true from srtB_iff.2 HSF.out)
              have HWB := Lib.hid (show ∀ x ∈ bs.flatten, x.wf from fun x hx => by
                obtain ⟨X, hX, hx⟩ := List.mem_flatten.1 hx
                exact hN.wf.out X hX x hx)
              obtain ⟨Az, nz, cz, rfl, hnz, _⟩ := OwnL.form2 ho
              obtain ⟨L, hL⟩ : ∃ L, M * z = L := ⟨_, rfl⟩
              rw [hL] at HFT
              obtain rfl : L = nz := HFT.out.symm.trans hnz.out
              have hL64 : L ≤ 16 * 4 := by rw [← hL]; exact Nat.mul_le_mul hM16 hz4.2
              have hmul : IntKind.i64.wrap ((M : Int) * (z : Int)) = (L : Int) := by rw [← Int.natCast_mul, hL, IntKind.wrap_i64]; omega
              have HMU := Lib.hid hmul
              have lz := OwnL.lst ho HWB.out
              have hbz := hN.below.trans (hst.mono hN.below.size)
              generalize bs.flatten = F at lz HSB
              clear ho hnz hall hmul hN hL
              go_wp2_with fail
              refine (awake14_any wr).mono ?_
              rintro e w1 ⟨rfl, b1⟩
              have lz := (Lst.below lz b1).more b1.size
              have b1 := hbz.trans (b1.mono hbz.size)
              go_wp2_with fail
              refine (sorted_any w1.heap.size Az L cz F seq w1 lz (Nat.le_refl _) (by omega)).mono ?_
              rintro e w2 ⟨rfl, b2⟩
              rw [HSB.out]
              have b2 := b1.trans (b2.mono b1.size)
              go_wp2_with (refine Held.wpList_run (w := w2) rfl (v := .int .i64 (L : Int)) (Held.y_int (S := fun _ => True) rfl rfl rfl (Held.run_mul 3 .i64 HMU.out) _ trivial) ?_)
              go_ret
              exact ⟨rfl, b2⟩
theorem walk (A0 : Option Addr) (m0 c0 : Nat) (rs0 : List Rs.R) (a1 : Int) (a2 : Int) (a3 : Bool) (w : World) (hr0 : Rs.Recs w w.heap.size A0 m0 rs0) (hc0 : m0 ≤ c0 ∧ c0 ≤ maxLen) (w1 : (Lit.int .i64 a1).wf = true) (w2 : (Lit.int .i64 a2).wf = true) :
    Calls Try.prog 5 #[.slice A0 m0 c0, .int .i64 a1, .int .i64 a2, .bool a3] w fun e w' => e = .returned (.bool true) ∧ Below w.heap.size w w' := by
  exact start A0 m0 c0 rs0 a1 a2 a3 w hr0
set_option maxRecDepth 100000 in
theorem lifted (os : Os) (started : os.Started) (H : Type) (enc : TypeId × Value → H) :
    ReturnsInHanded {} Try.checked os 5 .any (Rows.mergeNetworkSpec.pre6 enc Try.prog Try.f5 Rows.mergeNetworkRow.domain false) (Rows.mergeNetworkSpec.post enc Try.prog Try.f5 false true false false) := by
  refine returnsInHanded_of_change (C := Try.checked) own started (by kernel_rfl) Try.func5
    (ChangeSpec.witness6 (enc := enc) (C := Try.checked) false ⟨#[], #[.slice none 0 0, .int .i64 0, .int .i64 0, .bool false], []⟩ 8 (by kernel_rfl) (by kernel_rfl) (by kernel_rfl) (by kernel_rfl)) ?_
  intro W base args ds gs before hval0 hW hcnd _
  have hval : ∀ (j : Nat) t v, Try.f5.params[j]? = some t → args[j]? = some v → Value.okWide Try.prog W .any base t v := hval0
  have hW' := hW
  obtain ⟨p, q, hA0, hV, rfl, hfz, hnd⟩ := hW
  have hA : DataW.TrodAll enc Try.prog W 0 (fun _ => true) true Try.f5.params.toList args.toList ds p := hA0
  rw [Try.params5] at hA hval
  obtain ⟨v0, vs0, d0, ds0, p0, q0, hargs, rfl, rfl, h0, r0⟩ := trodAll_cons hA
  obtain ⟨v1, vs1, d1, ds1, p1, q1, rfl, rfl, rfl, h1, r1⟩ := trodAll_cons r0
  obtain ⟨v2, vs2, d2, ds2, p2, q2, rfl, rfl, rfl, h2, r2⟩ := trodAll_cons r1
  obtain ⟨v3, vs3, d3, ds3, p3, q3, rfl, rfl, rfl, h3, r3⟩ := trodAll_cons r2
  obtain ⟨rfl, rfl, rfl⟩ := trodAll_nil r3
  obtain rfl : args = #[v0, v1, v2, v3] := by cases args; simp_all
  obtain ⟨rfl, rfl⟩ := trodVars_none hV
  obtain ⟨A0, m0, c0, rfl⟩ := okWide_slice Try.underlying22 (hval 0 22 v0 rfl rfl)
  have kk0 := h0
  have lt0 : ∀ x ∈ p0, x.block < W.heap.size := by obtain ⟨m, hm⟩ := kk0; exact DataW.trod_lt m _ _ _ hm
  obtain ⟨rs0, hr0, hc0⟩ := Rs.open_recs h0
  obtain ⟨a1, rfl, rfl, rfl, w1⟩ := open_int Try.underlying3 (hval 1 3 v1 rfl rfl) h1
  obtain ⟨a2, rfl, rfl, rfl, w2⟩ := open_int Try.underlying3 (hval 2 3 v2 rfl rfl) h2
  obtain ⟨a3, rfl, rfl, rfl⟩ := open_bool Try.underlying4 (hval 3 4 v3 rfl rfl) h3
  clear hA0 hval0
  refine (walk A0 m0 c0 rs0 a1 a2 a3 W hr0 hc0 w1 w2).mono fun e W' ⟨he, bel⟩ => ?_
  subst he
  exact ⟨_, rfl, _, _, _, [], _, [], hW', trodAll_mk1 (shut_bool Try.underlying4 _), (trodAll_cons_mk (Below.trod laidOut (by kernel_rfl) (of_decide_eq_true (by kernel_rfl)) kk0 bel lt0) (trodAll_cons_mk (shut_int Try.underlying3 w1) (trodAll_cons_mk (shut_int Try.underlying3 w2) (trodAll_cons_mk (shut_bool Try.underlying4 _) trodAll_mk0)))), rfl, bel.frame _, fun h => by cases h⟩
theorem over : Rows.mergeNetworkRow.holds Try.pinned (OpenSpec.ofChange Rows.mergeNetworkSpec) :=
  OpenClaim.holds_of_wide 5 Try.f5 rfl rfl rfl rfl rfl rfl rfl ⟨rfl, rfl, rfl, rfl, rfl⟩ rfl rfl rfl rfl rfl (by kernel_rfl) Try.func5 (by kernel_rfl)
    (of_decide_eq_true (by kernel_rfl)) (by unfold Func.isWrapper; first | (rw [if_pos (by decide +kernel)]; kernel_rfl) | (rw [if_neg (by decide +kernel)]; exact ⟨rfl, rfl⟩))
    (fun os started H enc _ => lifted os started H enc)
theorem proved : Rows.MergeNetworkSaid :=
  over
#print axioms proved
end Go.Proofs.Ytbhgonnonhiocaa.mergeNetwork
