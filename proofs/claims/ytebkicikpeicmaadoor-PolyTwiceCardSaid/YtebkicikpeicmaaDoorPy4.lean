/-
  The functions times and lowest of package poly, each by its contract. Conditions: limbs that are small enough.
-/
import Derived.Test.YtebkicikpeicmaaDoorPy3
import Derived.WalkMore
namespace Go.Proofs.YtebkicikpeicmaaDoor.Po
open Go.RowKit Go.Shelf Go.Proofs.YtebkicikpeicmaaDoor.Mem Go.Proofs.YtebkicikpeicmaaDoor.Sum
set_option linter.unusedVariables false
attribute [local irreducible] wpList wpListIn

set_option maxRecDepth 100000 in
theorem times_any (a r : List Int) (w : World) (ha : a.length = 5) (hr : r.length = 5) (hab : ∀ x ∈ a, 0 ≤ x ∧ x < 268435456) (hrb : ∀ x ∈ r, 0 ≤ x ∧ x < 67108864) :
    Calls Tryd.prog 20 #[.agg (arr .u64 a), .agg (arr .u64 (factors r))] w fun e w' => e = .returned (.agg (arr .u64 (settle (mulL a r)))) ∧ Below w.heap.size w w' := by
  have HA := Lib.hid ha
  have HE := Lib.hid (mix_end a r)
  have HM := Lib.hid (mulL_length a r)
  have HMB := Lib.hid (mulL_bound hab hrb)
  have HS := Lib.hid (settle_wf (mulL_length a r) (mulL_bound hab hrb))
  have HFL := Lib.hid (factors_length hr)
  have HPB := Lib.hid (fun i j => psum_bound hab (factors_bound hrb) i j)
  have HAB := Lib.hid (fun i => getD_range (P := fun x => 0 ≤ x ∧ x < 268435456) hab (by omega) i)
  have HFB := Lib.hid (fun i => getD_range (P := fun x => 0 ≤ x ∧ x < 536870912) (factors_bound hrb) (by omega) i)
  have haw : ∀ z ∈ a, (Lit.int .u64 z).wf = true := fun z hz => wf_64 (by have := hab z hz; omega)
  have hfw : ∀ z ∈ factors r, (Lit.int .u64 z).wf = true := fun z hz => wf_64 (by have := factors_bound hrb z hz; omega)
  have hmw : ∀ z ∈ mulL a r, (Lit.int .u64 z).wf = true := fun z hz => wf_64 (by have := mulL_bound hab hrb z hz; omega)
  generalize factors r = f at *
  clear ha hr hab hrb
  have HSUM := HPB
  go_enter Tryd.func20, Tryd.ntmps20
  go_wp2_with (first
    | (refine wpList_box_Row (w := w) rfl 40 _ rfl .u64 a rfl haw ?_; intro w1 r1 g1 z1)
    | (refine wpList_box_Row (w := w1) rfl 44 _ rfl .u64 f rfl hfw ?_; intro w2 r2 g2 z2)
    | (refine wpList_alloc_Row (w := w2) rfl 40 rfl .u64 5 zero_num ?_; intro w3 r3 g3 z3)
    | (refine wpList_alloc_Row (w := w3) rfl 40 rfl .u64 5 zero_num ?_; intro w4 r4 g4 z4; have p4 := ((r1.grown g2 (by simp)).grown g3 (by simp)).grown g4 (by simp))
    | (refine wpList_load_Row (w := w4) rfl 40 _ rfl w.heap.size rfl 40 .u64 _ p4 5 38 Tryd.underlying40 info_num HA.out ?_))
  obtain ⟨gf, hgf⟩ : ∃ g, w1.heap.size = g := ⟨_, rfl⟩
  obtain ⟨gr, hgr⟩ : ∃ g, w2.heap.size = g := ⟨_, rfl⟩
  obtain ⟨gp, hgp⟩ : ∃ g, w3.heap.size = g := ⟨_, rfl⟩
  have l1 := r1.lt
  have l2 := r2.lt
  have l3 := r3.lt
  have b4 : Below w.heap.size w w4 := ((((Below.refl _ w).grown g1 (Nat.le_refl _) (by simp)).grown g2 g1.size (by simp)).grown g3 (by omega) (by simp)).grown g4 (by omega) (by simp)
  have f4 := (r2.grown g3 (by simp)).grown g4 (by simp)
  have e4 := r3.grown g4 (by simp)
  rw [hgf] at l1 l2 f4
  rw [hgr] at l2 l3 e4
  rw [hgp] at l3 r4
  rw [hgf, hgr, hgp]
  clear hgf hgr hgp r1 r2 r3 g1 g2 g3 g4 z1 z2 z3 z4 p4
  go_loopw [11] (fun i wr => ∃ k : Nat, k ≤ 5 ∧ i = .int .i64 k ∧ Below w.heap.size w wr ∧ Row wr gf 44 .u64 f ∧ Row wr gp 40 .u64 (mix a f k 0) ∧ Row wr gr 40 .u64 (List.replicate 5 0)) (fun i _ => 5 - (intOf i).toNat)
  case atStart => exact ⟨0, by omega, rfl, b4, f4, by rw [mix_start]; exact r4, e4⟩
  case round =>
    clear b4 f4 e4 r4
    obtain ⟨k, hk, rfl, hbl, fr, pr, er⟩ := hrel
    have hk0 : (0 : Int) ≤ (k : Int) := by omega
    by_cases hlt : k < 5
    · have hlt' : (k : Int) < 5 := by omega
      have hsl : ∀ W, (Instr.sliceAt 44 (.pointer (some ⟨gf, 0, none⟩)) (some (.int .i64 (5 - (k : Int)))) (some (.int .i64 (10 - (k : Int)))) none).run Tryd.prog W = .ok (.slice (some ⟨gf, 5 - k, none⟩) 5 (5 + k)) W := fun W => by
        have := run_slice_arr_lh (P := Tryd.prog) 44 38 10 gf (5 - k) (10 - k) W Tryd.underlying44 (by kernel_rfl) (by omega) (by omega) (by omega)
        rw [show ((5 - k : Nat) : Int) = 5 - (k : Int) by omega, show ((10 - k : Nat) : Int) = 10 - (k : Int) by omega, show 10 - k - (5 - k) = 5 by omega, show 10 - (5 - k) = 5 + k by omega] at this
        exact this
      have hidx : ∀ W, (Instr.index 40 (.agg (arr .u64 a)) (.int .i64 (k : Int))).run Tryd.prog W = .ok (.int .u64 (a.getD k 0)) W := fun W =>
        run_index_arr 40 38 5 .u64 a k W Tryd.underlying40 (by kernel_rfl) (by kernel_rfl) HA.out hlt
      have hx := HAB.out k
      have HXE : ∃ x, Hid (a.getD k 0 = x) := ⟨_, Lib.hid rfl⟩
      obtain ⟨x, HXE⟩ := HXE
      rw [HXE.out] at hidx hx
      go_wp2_with fail
      go_loopw [21] (fun j wr => ∃ q : Nat, q ≤ 5 ∧ j = .int .i64 q ∧ Below w.heap.size w wr ∧ Row wr gf 44 .u64 f ∧ Row wr gp 40 .u64 (mix a f k q) ∧ Row wr gr 40 .u64 (List.replicate 5 0)) (fun j _ => 5 - (intOf j).toNat)
      case atStart => exact ⟨0, by omega, rfl, hbl, fr, pr, er⟩
      case round =>
        clear hbl fr pr er
        obtain ⟨q, hq, rfl, hbl, fr, pr, er⟩ := hrel
        have hq0 : (0 : Int) ≤ (q : Int) := by omega
        by_cases hlq : q < 5
        · have hlq' : (q : Int) < 5 := by omega
          have cf := fr.cell (i := 5 - k + q) (by rw [HFL.out]; omega)
          have cp := pr.cell (i := q) (by rw [mix_length]; exact hlq)
          rw [mix_get a f k hlq] at cp
          have HX := mix_set a f k hlq
          rw [HXE.out] at HX
          have HX := Lib.hid HX
          have hs := HSUM.out k q
          have hy := HFB.out (5 - k + q)
          have hk5 : (k : Int) * 144115188075855872 ≤ 4 * 144115188075855872 := by omega
          generalize f.getD (5 - k + q) 0 = y at *
          generalize psum a f k q = s at *
          have m1 : 0 ≤ x * y := Int.mul_nonneg hx.1 hy.1
          have m2 : x * y ≤ 268435456 * 536870912 := Int.mul_le_mul (by omega) (by omega) hy.1 (by omega)
          have hmul : IntKind.u64.wrap (x * y) = x * y := IntWalk.u64_in _ (by omega)
          have hadd : IntKind.u64.wrap (s + x * y) = s + x * y := IntWalk.u64_in _ (by omega)
          have w0 : (Lit.int .u64 (s + x * y)).wf = true := wf_64 (by omega)
          go_wp2_with (refine wpList_store_elem (w := wr) rfl 38 _ _ rfl gp q rfl 40 .u64 _ (s + x * y) rfl pr (by rw [mix_length]; exact hlq) info_u64 w0 ?_; intro w5 q5 g5 z5; rw [HX.out] at q5)
          go_roundw
          case rel => exact ⟨q + 1, by omega, by go_num, hbl.grown g5 hbl.size (fun r e => by cases e; omega), fr.grown g5 (by intro e; injection e with e; omega), q5, er.grown g5 (by intro e; injection e with e; omega)⟩
          case measure => simp [intOf]; omega
        · have hq5 : q = 5 := by omega
          subst hq5
          rw [mix_next] at pr
          go_wp2_with fail
          go_roundw
          case rel => exact ⟨k + 1, by omega, by go_num, hbl, fr, pr, er⟩
          case measure => simp [intOf]; omega
    · have hk5 : k = 5 := by omega
      subst hk5
      rw [HE.out] at pr
      have HSL := Lib.hid HS.out.1
      clear hk0 hlt HSUM HPB HE
      go_wp2_with (refine wpList_load_Row (w := wr) rfl 40 _ rfl gp rfl 40 .u64 _ pr 5 38 Tryd.underlying40 info_num HM.out ?_)
      refine (settled_any _ _ HM.out HMB.out).mono ?_
      rintro e w7 ⟨rfl, hb7⟩
      have e7 := er.below hb7 er.lt
      have b7 := hbl.trans (hb7.mono hbl.size)
      go_wp2_with (refine wpList_store_RowTo (w := w7) rfl 40 _ _ rfl gr rfl 40 .u64 _ (settle (mulL a r)) rfl e7 5 info_num HSL.out (by simp) HS.out.2 ?_; intro w8 q8 g8 z8)
      refine bodyPost_ret (results_Row rfl _ _ gr _ _ _ rfl q8 5 38 Tryd.underlying40 info_num HSL.out) rfl ?_
      exact ⟨rfl, b7.grown g8 b7.size (fun r e => by cases e; omega)⟩

theorem digits_set_ok (n : Int) : ∀ z ∈ digits n 16, (Lit.int .u8 z).wf = true := bs_wf (digits_bytes 16 n)
set_option maxRecDepth 100000 in
theorem lowest_any (n : List Int) (w : World) (hn : n.length = 5) (hb : ∀ x ∈ n, 0 ≤ x ∧ x < 268435456) :
    Calls Tryd.prog 22 #[.agg (arr .u64 n)] w fun e w' => e = .returned (.agg (arr .u8 (digits (lv n) 16))) ∧ Below w.heap.size w w' := by
  have HN := Lib.hid hn
  have HL := Lib.hid (digits_length 16 (lv n))
  have HW := Lib.hid (digits_set_ok (lv n))
  have HG := Lib.hid (fun i (h : i < 16) => digits_get 16 (lv n) i h)
  have HNB := Lib.hid (fun i => getD_range (P := fun x => 0 ≤ x ∧ x < 268435456) hb (by omega) i)
  have HLIMB := Lib.hid (fun i b h rest (k : Low n i b h rest) (hi : i < 5) => k.limb (by omega) (getD_range (P := fun x => 0 ≤ x ∧ x < 268435456) hb (by omega) i))
  have hnw : ∀ z ∈ n, (Lit.int .u64 z).wf = true := fun z hz => wf_64 (by have := hb z hz; omega)
  clear hn hb
  go_enter Tryd.func22, Tryd.ntmps22
  go_wp2_with (first
    | (refine wpList_box_Row (w := w) rfl 40 _ rfl .u64 n rfl hnw ?_; intro w1 r1 g1 z1)
    | (refine wpList_alloc_Row (w := w1) rfl 27 rfl .u8 16 zero_16b ?_; intro w2 r2 g2 z2))
  apply wp_scope_straight
  go_wp2_with (refine wpList_alloc_Row (w := w2) rfl 27 rfl .u8 16 zero_16b ?_; intro w3 r3 g3 z3; have p3 := (r1.grown g2 (by simp)).grown g3 (by simp))
  apply wp_label
  go_wp2_with (refine wpList_load_Row (w := w3) rfl 40 _ rfl w.heap.size rfl 40 .u64 _ p3 5 38 Tryd.underlying40 info_num HN.out ?_)
  obtain ⟨gr, hgr⟩ : ∃ g, w1.heap.size = g := ⟨_, rfl⟩
  obtain ⟨gb, hgb⟩ : ∃ g, w2.heap.size = g := ⟨_, rfl⟩
  have l1 := r1.lt
  have l2 := r2.lt
  have b3 : Below w.heap.size w w3 := (((Below.refl _ w).grown g1 (Nat.le_refl _) (by simp)).grown g2 g1.size (by simp)).grown g3 (by omega) (by simp)
  have e3 := r2.grown g3 (by simp)
  rw [hgr] at l1 l2 e3
  rw [hgb] at l2 r3
  rw [hgr, hgb]
  clear hgr hgb r1 r2 g1 g2 g3 z1 z2 z3 p3
  go_loopw [4, 5, 6, 10] (fun s h b i wr => ∃ (k hh bb : Nat) (rest : Int), k ≤ 5 ∧ bb < 16 ∧ hh < 8 ∧ i = .int .i64 k ∧ s = .int .u64 rest ∧ h = .int .i64 hh ∧ b = .int .i64 bb ∧ Hid (Low n k bb hh rest) ∧ Below w.heap.size w wr ∧
    Row wr gb 27 .u8 (blend (digits (lv n) 16) (List.replicate 16 0) bb) ∧ Row wr gr 27 .u8 (List.replicate 16 0)) (fun _ _ _ i _ => 5 - (intOf i).toNat)
  case atStart => exact ⟨0, 0, 0, 0, by omega, by omega, by omega, rfl, rfl, rfl, rfl, Lib.hid (Low.start n), b3, by rw [blend_zero]; exact r3, e3⟩
  case round =>
    clear b3 e3 r3
    obtain ⟨k, hh, bb, rest, hk, hbb, hhh, rfl, rfl, rfl, rfl, hlow, hbl, br, er⟩ := hrel
    have hk0 : (0 : Int) ≤ (k : Int) := by omega
    by_cases hlt : k < 5
    · have hlt' : (k : Int) < 5 := by omega
      have hidx : ∀ W, (Instr.index 40 (.agg (arr .u64 n)) (.int .i64 (k : Int))).run Tryd.prog W = .ok (.int .u64 (n.getD k 0)) W := fun W =>
        run_index_arr 40 38 5 .u64 n k W Tryd.underlying40 (by kernel_rfl) (by kernel_rfl) HN.out hlt
      have hx := HNB.out k
      have hlow2 := HLIMB.out k bb hh rest hlow.out hlt
      obtain ⟨_, _, lr0, lr1⟩ := hlow.out
      have HLOW2 := Lib.hid hlow2
      obtain ⟨_, _, ls0, ls1⟩ := hlow2
      generalize n.getD k 0 = x at *
      have hp1 : (0 : Int) < 2 ^ hh := Int.pow_pos (by omega)
      have hp2 : (2 : Int) ^ (hh + 26 + 3) ≤ 2 ^ 36 := by
        rcases (show hh = 0 ∨ hh = 1 ∨ hh = 2 ∨ hh = 3 ∨ hh = 4 ∨ hh = 5 ∨ hh = 6 ∨ hh = 7 by omega) with rfl | rfl | rfl | rfl | rfl | rfl | rfl | rfl <;> decide
      have hm0 : 0 ≤ x * 2 ^ hh := Int.mul_nonneg hx.1 (by omega)
      have hmul : IntKind.u64.wrap (x * 2 ^ hh) = x * 2 ^ hh := IntWalk.u64_in _ (by omega)
      have hadd : IntKind.u64.wrap (rest + x * 2 ^ hh) = rest + x * 2 ^ hh := IntWalk.u64_in _ (by omega)
      go_wp2_with fail
      go_loopw [4, 5, 6] (fun s h b wr => ∃ (hh bb : Nat) (rest : Int), bb < 16 ∧ hh ≤ 33 ∧ s = .int .u64 rest ∧ h = .int .i64 hh ∧ b = .int .i64 bb ∧ Hid (Low n (k + 1) bb hh rest) ∧ Below w.heap.size w wr ∧
        Row wr gb 27 .u8 (blend (digits (lv n) 16) (List.replicate 16 0) bb) ∧ Row wr gr 27 .u8 (List.replicate 16 0)) (fun _ h _ _ => (intOf h).toNat)
      case atStart => exact ⟨hh + 26, bb, _, hbb, by omega, rfl, by go_num, rfl, HLOW2, hbl, br, er⟩
      case round =>
        clear hbl br er HLOW2 hmul hadd hm0 hp1 hp2 lr0 lr1 ls0 ls1 hlow hhh hbb
        obtain ⟨h2, b2, r2, hbb, hhh, rfl, rfl, rfl, hlow, hbl, br, er⟩ := hrel
        by_cases hge : 8 ≤ h2
        · have hge' : (8 : Int) ≤ (h2 : Int) := by omega
          obtain ⟨_, _, lr0, lr1⟩ := hlow.out
          have hnext := hlow.out.byte hge
          rw [← HG.out b2 hbb] at hnext
          have hLen : (digits (lv n) 16).length = (List.replicate 16 (0 : Int)).length := by rw [HL.out]; simp
          have hl16 : (blend (digits (lv n) 16) (List.replicate 16 0) b2).length = 16 := by rw [blend_length hLen]; simp
          have hset := blend_set hLen (i := b2) (by simpa using hbb)
          rw [← hnext.2] at hset
          have HNEXT := Lib.hid hnext.1
          have HSET := Lib.hid hset
          have HL16 := Lib.hid hl16
          have hcv : IntKind.u8.wrap r2 = r2 % 256 := by simp [IntKind.wrap, IntKind.bits, IntKind.signed]
          have w0 : (Lit.int .u8 (r2 % 256)).wf = true := wf_byte (by omega)
          have hb0 : (0 : Int) ≤ (b2 : Int) := by omega
          have hb1 : (b2 : Int) < 16 := by omega
          clear hnext hset hl16 hLen lr1
          by_cases hend : b2 + 1 = 16
          · have hend' : (b2 : Int) + 1 = 16 := by omega
            have hall : Hid (blend (digits (lv n) 16) (List.replicate 16 0) (b2 + 1) = digits (lv n) 16) := Lib.hid (by
              rw [hend]
              exact blend_all (F := digits (lv n) 16) (a := List.replicate 16 0) (by rw [HL.out]; simp))
            go_wp2_with (first
              | (refine wpList_store_elem (w := wr) rfl 5 _ _ rfl gb b2 rfl 27 .u8 _ (r2 % 256) rfl br (by rw [HL16.out]; exact hbb) info_u8 w0 ?_; intro w5 q5 g5 z5; rw [HSET.out, hall.out] at q5; have e5 := er.grown g5 (by intro e; injection e with e; omega))
              | (refine wpList_load_Row (w := w5) rfl 27 _ rfl gb rfl 27 .u8 _ q5 16 5 Tryd.underlying27 info_16b HL.out ?_)
              | (refine wpList_store_RowTo (w := w5) rfl 27 _ _ rfl gr rfl 27 .u8 _ (digits (lv n) 16) rfl e5 16 info_16b HL.out (by simp) HW.out ?_; intro w8 q8 g8 z8))
            rw [Exit.noGoto_ret]
            refine bodyPost_ret (results_Row rfl _ _ gr _ _ _ rfl q8 16 5 Tryd.underlying27 info_16b HL.out) rfl ?_
            exact ⟨rfl, (hbl.grown g5 hbl.size (fun r e => by cases e; omega)).grown g8 (by have := hbl.size; have := g5.size; omega) (fun r e => by cases e; omega)⟩
          · have hend' : ¬ (b2 : Int) + 1 = 16 := by omega
            go_wp2_with (refine wpList_store_elem (w := wr) rfl 5 _ _ rfl gb b2 rfl 27 .u8 _ (r2 % 256) rfl br (by rw [HL16.out]; exact hbb) info_u8 w0 ?_; intro w5 q5 g5 z5; rw [HSET.out] at q5)
            go_roundw
            case rel => exact ⟨h2 - 8, b2 + 1, _, by omega, by omega, rfl, by go_num, by go_num, HNEXT, hbl.grown g5 hbl.size (fun r e => by cases e; omega), q5, er.grown g5 (by intro e; injection e with e; omega)⟩
            case measure => simp [intOf]; omega
        · have hge' : ¬ (8 : Int) ≤ (h2 : Int) := by omega
          go_wp2_with fail
          go_roundw
          case rel => exact ⟨k + 1, h2, b2, r2, by omega, hbb, by omega, by go_num, rfl, rfl, rfl, hlow, hbl, br, er⟩
          case measure => simp [intOf]; omega
    · exact absurd hlow.out.1 (by omega)
end Go.Proofs.YtebkicikpeicmaaDoor.Po

