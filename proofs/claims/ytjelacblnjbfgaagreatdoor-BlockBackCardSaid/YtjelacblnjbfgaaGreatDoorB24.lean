/-
  The functions times and lowest of package poly, each by its contract.
  The iterator over a message's pieces of package poly, by its contract: it hands out just the pieces, one by one.
-/
import Derived.Test.YtjelacblnjbfgaaGreatDoorB23
import Derived.WalkMore
import Derived.Test.YtjelacblnjbfgaaGreatDoorB9
import Derived.Test.YtjelacblnjbfgaaGreatDoorB3
set_option linter.unusedVariables false
namespace Go.Proofs.YtjelacblnjbfgaaGreatDoor.Po
open Go.RowKit Go.Shelf Mem Go.Proofs.YtjelacblnjbfgaaGreatDoor.Sum
attribute [local irreducible] wpList wpListIn
set_option maxRecDepth 100000 in
theorem times_any (a r : List Int) (w : World) (ha : a.length = 5) (hr : r.length = 5) (hab : ∀ x ∈ a, 0 ≤ x ∧ x < 268435456) (hrb : ∀ x ∈ r, 0 ≤ x ∧ x < 67108864) :
    Calls Tryz.prog 85 #[.agg (arr .u64 a), .agg (arr .u64 (factors r))] w fun e w' => e = .returned (.agg (arr .u64 (settle (mulL a r)))) ∧ Below w.heap.size w w' := by
  have HA := Lib.hid ha
  have HE := Lib.hid (mix_end a r)
  have HM := Lib.hid (mulL_length a r)
  have HMB := Lib.hid (mulL_bound hab hrb)
  have HS := Lib.hid (settle_wf (mulL_length a r) (mulL_bound hab hrb))
  have HFL := Lib.hid (factors_length hr)
  have HPB := Lib.hid (fun i j => psum_bound hab (factors_bound hrb) i j)
  have HAB := Lib.hid (fun i => getD_range (P := fun x => 0 ≤ x ∧ x < 268435456) hab (by omega) i)
  have HFB := Lib.hid (fun i => getD_range (P := fun x => 0 ≤ x ∧ x < 536870912) (factors_bound hrb) (by omega) i)
  have haw : ∀ z ∈ a, (Lit.int .u64 z).wf = true := fun z hz => wf_64 (by have := hab z hz; omega)
  have hfw : ∀ z ∈ factors r, (Lit.int .u64 z).wf = true := fun z hz => wf_64 (by have := factors_bound hrb z hz; omega)
  have hmw : ∀ z ∈ mulL a r, (Lit.int .u64 z).wf = true := fun z hz => wf_64 (by have := mulL_bound hab hrb z hz; omega)
  generalize factors r = f at *
  clear ha hr hab hrb
  have HSUM := HPB
  go_enter Tryz.func85, Tryz.ntmps85
  go_wp2_with (first
    | (refine wpList_box_Row (w := w) rfl 111 _ rfl .u64 a rfl haw ?_; intro w1 r1 g1 z1)
    | (refine wpList_box_Row (w := w1) rfl 116 _ rfl .u64 f rfl hfw ?_; intro w2 r2 g2 z2)
    | (refine wpList_alloc_Row (w := w2) rfl 111 rfl .u64 5 zero_num ?_; intro w3 r3 g3 z3)
    | (refine wpList_alloc_Row (w := w3) rfl 111 rfl .u64 5 zero_num ?_; intro w4 r4 g4 z4; have p4 := ((r1.grown g2 (by simp)).grown g3 (by simp)).grown g4 (by simp))
    | (refine wpList_load_Row (w := w4) rfl 111 _ rfl w.heap.size rfl 111 .u64 _ p4 5 23 Tryz.underlying111 info_num HA.out ?_))
  obtain ⟨gf, hgf⟩ : ∃ g, w1.heap.size = g := ⟨_, rfl⟩
  obtain ⟨gr, hgr⟩ : ∃ g, w2.heap.size = g := ⟨_, rfl⟩
  obtain ⟨gp, hgp⟩ : ∃ g, w3.heap.size = g := ⟨_, rfl⟩
  have l1 := r1.lt
  have l2 := r2.lt
  have l3 := r3.lt
  have b4 : Below w.heap.size w w4 := ((((Below.refl _ w).grown g1 (Nat.le_refl _) (by simp)).grown g2 g1.size (by simp)).grown g3 (by omega) (by simp)).grown g4 (by omega) (by simp)
  have f4 := (r2.grown g3 (by simp)).grown g4 (by simp)
  have e4 := r3.grown g4 (by simp)
  rw [hgf] at l1 l2 f4
  rw [hgr] at l2 l3 e4
  rw [hgp] at l3 r4
  rw [hgf, hgr, hgp]
  clear hgf hgr hgp r1 r2 r3 g1 g2 g3 g4 z1 z2 z3 z4 p4
  go_loopw [11] (fun i wr => ∃ k : Nat, k ≤ 5 ∧ i = .int .i64 k ∧ Below w.heap.size w wr ∧ Row wr gf 116 .u64 f ∧ Row wr gp 111 .u64 (mix a f k 0) ∧ Row wr gr 111 .u64 (List.replicate 5 0)) (fun i _ => 5 - (intOf i).toNat)
  case atStart => exact ⟨0, by omega, rfl, b4, f4, by rw [mix_start]; exact r4, e4⟩
  case round =>
    clear b4 f4 e4 r4
    obtain ⟨k, hk, rfl, hbl, fr, pr, er⟩ := hrel
    have hk0 : (0 : Int) ≤ (k : Int) := by omega
    by_cases hlt : k < 5
    · have hlt' : (k : Int) < 5 := by omega
      have hsl : ∀ W, (Instr.sliceAt 116 (.pointer (some ⟨gf, 0, none⟩)) (some (.int .i64 (5 - (k : Int)))) (some (.int .i64 (10 - (k : Int)))) none).run Tryz.prog W = .ok (.slice (some ⟨gf, 5 - k, none⟩) 5 (5 + k)) W := fun W => by
        have := run_slice_arr_lh (P := Tryz.prog) 116 23 10 gf (5 - k) (10 - k) W Tryz.underlying116 (by kernel_rfl) (by omega) (by omega) (by omega)
        rw [show ((5 - k : Nat) : Int) = 5 - (k : Int) by omega, show ((10 - k : Nat) : Int) = 10 - (k : Int) by omega, show 10 - k - (5 - k) = 5 by omega, show 10 - (5 - k) = 5 + k by omega] at this
        exact this
      have hidx : ∀ W, (Instr.index 111 (.agg (arr .u64 a)) (.int .i64 (k : Int))).run Tryz.prog W = .ok (.int .u64 (a.getD k 0)) W := fun W =>
        run_index_arr 111 23 5 .u64 a k W Tryz.underlying111 (by kernel_rfl) (by kernel_rfl) HA.out hlt
      have hx := HAB.out k
      have HXE : ∃ x, Hid (a.getD k 0 = x) := ⟨_, Lib.hid rfl⟩
      obtain ⟨x, HXE⟩ := HXE
      rw [HXE.out] at hidx hx
      go_wp2_with fail
      go_loopw [21] (fun j wr => ∃ q : Nat, q ≤ 5 ∧ j = .int .i64 q ∧ Below w.heap.size w wr ∧ Row wr gf 116 .u64 f ∧ Row wr gp 111 .u64 (mix a f k q) ∧ Row wr gr 111 .u64 (List.replicate 5 0)) (fun j _ => 5 - (intOf j).toNat)
      case atStart => exact ⟨0, by omega, rfl, hbl, fr, pr, er⟩
      case round =>
        clear hbl fr pr er
        obtain ⟨q, hq, rfl, hbl, fr, pr, er⟩ := hrel
        have hq0 : (0 : Int) ≤ (q : Int) := by omega
        by_cases hlq : q < 5
        · have hlq' : (q : Int) < 5 := by omega
          have cf := fr.cell (i := 5 - k + q) (by rw [HFL.out]; omega)
          have cp := pr.cell (i := q) (by rw [mix_length]; exact hlq)
          rw [mix_get a f k hlq] at cp
          have HX := mix_set a f k hlq
          rw [HXE.out] at HX
          have HX := Lib.hid HX
          have hs := HSUM.out k q
          have hy := HFB.out (5 - k + q)
          have hk5 : (k : Int) * 144115188075855872 ≤ 4 * 144115188075855872 := by omega
          generalize f.getD (5 - k + q) 0 = y at *
          generalize psum a f k q = s at *
          have m1 : 0 ≤ x * y := Int.mul_nonneg hx.1 hy.1
          have m2 : x * y ≤ 268435456 * 536870912 := Int.mul_le_mul (by omega) (by omega) hy.1 (by omega)
          have hmul : IntKind.u64.wrap (x * y) = x * y := IntWalk.u64_in _ (by omega)
          have hadd : IntKind.u64.wrap (s + x * y) = s + x * y := IntWalk.u64_in _ (by omega)
          have w0 : (Lit.int .u64 (s + x * y)).wf = true := wf_64 (by omega)
          go_wp2_with (refine wpList_store_elem (w := wr) rfl 23 _ _ rfl gp q rfl 111 .u64 _ (s + x * y) rfl pr (by rw [mix_length]; exact hlq) info_u64 w0 ?_; intro w5 q5 g5 z5; rw [HX.out] at q5)
          go_roundw
          case rel => exact ⟨q + 1, by omega, by go_num, hbl.grown g5 hbl.size (fun r e => by cases e; omega), fr.grown g5 (by intro e; injection e with e; omega), q5, er.grown g5 (by intro e; injection e with e; omega)⟩
          case measure => simp [intOf]; omega
        · have hq5 : q = 5 := by omega
          subst hq5
          rw [mix_next] at pr
          go_wp2_with fail
          go_roundw
          case rel => exact ⟨k + 1, by omega, by go_num, hbl, fr, pr, er⟩
          case measure => simp [intOf]; omega
    · have hk5 : k = 5 := by omega
      subst hk5
      rw [HE.out] at pr
      have HSL := Lib.hid HS.out.1
      clear hk0 hlt HSUM HPB HE
      go_wp2_with (refine wpList_load_Row (w := wr) rfl 111 _ rfl gp rfl 111 .u64 _ pr 5 23 Tryz.underlying111 info_num HM.out ?_)
      refine (settled_any _ _ HM.out HMB.out).mono ?_
      rintro e w7 ⟨rfl, hb7⟩
      have e7 := er.below hb7 er.lt
      have b7 := hbl.trans (hb7.mono hbl.size)
      go_wp2_with (refine wpList_store_RowTo (w := w7) rfl 111 _ _ rfl gr rfl 111 .u64 _ (settle (mulL a r)) rfl e7 5 info_num HSL.out (by simp) HS.out.2 ?_; intro w8 q8 g8 z8)
      refine bodyPost_ret (results_Row rfl _ _ gr _ _ _ rfl q8 5 23 Tryz.underlying111 info_num HSL.out) rfl ?_
      exact ⟨rfl, b7.grown g8 b7.size (fun r e => by cases e; omega)⟩
theorem digits_set_ok (n : Int) : ∀ z ∈ digits n 16, (Lit.int .u8 z).wf = true := bs_wf (digits_bytes 16 n)
set_option maxRecDepth 100000 in
theorem lowest_any (n : List Int) (w : World) (hn : n.length = 5) (hb : ∀ x ∈ n, 0 ≤ x ∧ x < 268435456) :
    Calls Tryz.prog 87 #[.agg (arr .u64 n)] w fun e w' => e = .returned (.agg (arr .u8 (digits (lv n) 16))) ∧ Below w.heap.size w w' := by
  have HN := Lib.hid hn
  have HL := Lib.hid (digits_length 16 (lv n))
  have HW := Lib.hid (digits_set_ok (lv n))
  have HG := Lib.hid (fun i (h : i < 16) => digits_get 16 (lv n) i h)
  have HNB := Lib.hid (fun i => getD_range (P := fun x => 0 ≤ x ∧ x < 268435456) hb (by omega) i)
  have HLIMB := Lib.hid (fun i b h rest (k : Low n i b h rest) (hi : i < 5) => k.limb (by omega) (getD_range (P := fun x => 0 ≤ x ∧ x < 268435456) hb (by omega) i))
  have hnw : ∀ z ∈ n, (Lit.int .u64 z).wf = true := fun z hz => wf_64 (by have := hb z hz; omega)
  clear hn hb
  go_enter Tryz.func87, Tryz.ntmps87
  go_wp2_with (first
    | (refine wpList_box_Row (w := w) rfl 111 _ rfl .u64 n rfl hnw ?_; intro w1 r1 g1 z1)
    | (refine wpList_alloc_Row (w := w1) rfl 58 rfl .u8 16 zero_16b ?_; intro w2 r2 g2 z2))
  apply wp_scope_straight
  go_wp2_with (refine wpList_alloc_Row (w := w2) rfl 58 rfl .u8 16 zero_16b ?_; intro w3 r3 g3 z3; have p3 := (r1.grown g2 (by simp)).grown g3 (by simp))
  apply wp_label
  go_wp2_with (refine wpList_load_Row (w := w3) rfl 111 _ rfl w.heap.size rfl 111 .u64 _ p3 5 23 Tryz.underlying111 info_num HN.out ?_)
  obtain ⟨gr, hgr⟩ : ∃ g, w1.heap.size = g := ⟨_, rfl⟩
  obtain ⟨gb, hgb⟩ : ∃ g, w2.heap.size = g := ⟨_, rfl⟩
  have l1 := r1.lt
  have l2 := r2.lt
  have b3 : Below w.heap.size w w3 := (((Below.refl _ w).grown g1 (Nat.le_refl _) (by simp)).grown g2 g1.size (by simp)).grown g3 (by omega) (by simp)
  have e3 := r2.grown g3 (by simp)
  rw [hgr] at l1 l2 e3
  rw [hgb] at l2 r3
  rw [hgr, hgb]
  clear hgr hgb r1 r2 g1 g2 g3 z1 z2 z3 p3
  go_loopw [4, 5, 6, 10] (fun s h b i wr => ∃ (k hh bb : Nat) (rest : Int), k ≤ 5 ∧ bb < 16 ∧ hh < 8 ∧ i = .int .i64 k ∧ s = .int .u64 rest ∧ h = .int .i64 hh ∧ b = .int .i64 bb ∧ Hid (Low n k bb hh rest) ∧ Below w.heap.size w wr ∧
    Row wr gb 58 .u8 (blend (digits (lv n) 16) (List.replicate 16 0) bb) ∧ Row wr gr 58 .u8 (List.replicate 16 0)) (fun _ _ _ i _ => 5 - (intOf i).toNat)
  case atStart => exact ⟨0, 0, 0, 0, by omega, by omega, by omega, rfl, rfl, rfl, rfl, Lib.hid (Low.start n), b3, by rw [blend_zero]; exact r3, e3⟩
  case round =>
    clear b3 e3 r3
    obtain ⟨k, hh, bb, rest, hk, hbb, hhh, rfl, rfl, rfl, rfl, hlow, hbl, br, er⟩ := hrel
    have hk0 : (0 : Int) ≤ (k : Int) := by omega
    by_cases hlt : k < 5
    · have hlt' : (k : Int) < 5 := by omega
      have hidx : ∀ W, (Instr.index 111 (.agg (arr .u64 n)) (.int .i64 (k : Int))).run Tryz.prog W = .ok (.int .u64 (n.getD k 0)) W := fun W =>
        run_index_arr 111 23 5 .u64 n k W Tryz.underlying111 (by kernel_rfl) (by kernel_rfl) HN.out hlt
      have hx := HNB.out k
      have hlow2 := HLIMB.out k bb hh rest hlow.out hlt
      obtain ⟨_, _, lr0, lr1⟩ := hlow.out
      have HLOW2 := Lib.hid hlow2
      obtain ⟨_, _, ls0, ls1⟩ := hlow2
      generalize n.getD k 0 = x at *
      have hp1 : (0 : Int) < 2 ^ hh := Int.pow_pos (by omega)
      have hp2 : (2 : Int) ^ (hh + 26 + 3) ≤ 2 ^ 36 := by
        rcases (show hh = 0 ∨ hh = 1 ∨ hh = 2 ∨ hh = 3 ∨ hh = 4 ∨ hh = 5 ∨ hh = 6 ∨ hh = 7 by omega) with rfl | rfl | rfl | rfl | rfl | rfl | rfl | rfl <;> decide
      have hm0 : 0 ≤ x * 2 ^ hh := Int.mul_nonneg hx.1 (by omega)
      have hmul : IntKind.u64.wrap (x * 2 ^ hh) = x * 2 ^ hh := IntWalk.u64_in _ (by omega)
      have hadd : IntKind.u64.wrap (rest + x * 2 ^ hh) = rest + x * 2 ^ hh := IntWalk.u64_in _ (by omega)
      go_wp2_with fail
      go_loopw [4, 5, 6] (fun s h b wr => ∃ (hh bb : Nat) (rest : Int), bb < 16 ∧ hh ≤ 33 ∧ s = .int .u64 rest ∧ h = .int .i64 hh ∧ b = .int .i64 bb ∧ Hid (Low n (k + 1) bb hh rest) ∧ Below w.heap.size w wr ∧
        Row wr gb 58 .u8 (blend (digits (lv n) 16) (List.replicate 16 0) bb) ∧ Row wr gr 58 .u8 (List.replicate 16 0)) (fun _ h _ _ => (intOf h).toNat)
      case atStart => exact ⟨hh + 26, bb, _, hbb, by omega, rfl, by go_num, rfl, HLOW2, hbl, br, er⟩
      case round =>
        clear hbl br er HLOW2 hmul hadd hm0 hp1 hp2 lr0 lr1 ls0 ls1 hlow hhh hbb
        obtain ⟨h2, b2, r2, hbb, hhh, rfl, rfl, rfl, hlow, hbl, br, er⟩ := hrel
        by_cases hge : 8 ≤ h2
        · have hge' : (8 : Int) ≤ (h2 : Int) := by omega
          obtain ⟨_, _, lr0, lr1⟩ := hlow.out
          have hnext := hlow.out.byte hge
          rw [← HG.out b2 hbb] at hnext
          have hLen : (digits (lv n) 16).length = (List.replicate 16 (0 : Int)).length := by rw [HL.out]; simp
          have hl16 : (blend (digits (lv n) 16) (List.replicate 16 0) b2).length = 16 := by rw [blend_length hLen]; simp
          have hset := blend_set hLen (i := b2) (by simpa using hbb)
          rw [← hnext.2] at hset
          have HNEXT := Lib.hid hnext.1
          have HSET := Lib.hid hset
          have HL16 := Lib.hid hl16
          have hcv : IntKind.u8.wrap r2 = r2 % 256 := by simp [IntKind.wrap, IntKind.bits, IntKind.signed]
          have w0 : (Lit.int .u8 (r2 % 256)).wf = true := wf_byte (by omega)
          have hb0 : (0 : Int) ≤ (b2 : Int) := by omega
          have hb1 : (b2 : Int) < 16 := by omega
          clear hnext hset hl16 hLen lr1
          by_cases hend : b2 + 1 = 16
          · have hend' : (b2 : Int) + 1 = 16 := by omega
            have hall : Hid (blend (digits (lv n) 16) (List.replicate 16 0) (b2 + 1) = digits (lv n) 16) := Lib.hid (by
              rw [hend]
              exact blend_all (F := digits (lv n) 16) (a := List.replicate 16 0) (by rw [HL.out]; simp))
            go_wp2_with (first
              | (refine wpList_store_elem (w := wr) rfl 5 _ _ rfl gb b2 rfl 58 .u8 _ (r2 % 256) rfl br (by rw [HL16.out]; exact hbb) info_u8 w0 ?_; intro w5 q5 g5 z5; rw [HSET.out, hall.out] at q5; have e5 := er.grown g5 (by intro e; injection e with e; omega))
              | (refine wpList_load_Row (w := w5) rfl 58 _ rfl gb rfl 58 .u8 _ q5 16 5 Tryz.underlying58 info_16b HL.out ?_)
              | (refine wpList_store_RowTo (w := w5) rfl 58 _ _ rfl gr rfl 58 .u8 _ (digits (lv n) 16) rfl e5 16 info_16b HL.out (by simp) HW.out ?_; intro w8 q8 g8 z8))
            rw [Exit.noGoto_ret]
            refine bodyPost_ret (results_Row rfl _ _ gr _ _ _ rfl q8 16 5 Tryz.underlying58 info_16b HL.out) rfl ?_
            exact ⟨rfl, (hbl.grown g5 hbl.size (fun r e => by cases e; omega)).grown g8 (by have := hbl.size; have := g5.size; omega) (fun r e => by cases e; omega)⟩
          · have hend' : ¬ (b2 : Int) + 1 = 16 := by omega
            go_wp2_with (refine wpList_store_elem (w := wr) rfl 5 _ _ rfl gb b2 rfl 58 .u8 _ (r2 % 256) rfl br (by rw [HL16.out]; exact hbb) info_u8 w0 ?_; intro w5 q5 g5 z5; rw [HSET.out] at q5)
            go_roundw
            case rel => exact ⟨h2 - 8, b2 + 1, _, by omega, by omega, rfl, by go_num, by go_num, HNEXT, hbl.grown g5 hbl.size (fun r e => by cases e; omega), q5, er.grown g5 (by intro e; injection e with e; omega)⟩
            case measure => simp [intOf]; omega
        · have hge' : ¬ (8 : Int) ≤ (h2 : Int) := by omega
          go_wp2_with fail
          go_roundw
          case rel => exact ⟨k + 1, h2, b2, r2, by omega, hbb, by omega, by go_num, rfl, rfl, rfl, hlow, hbl, br, er⟩
          case measure => simp [intOf]; omega
    · exact absurd hlow.out.1 (by omega)
end Go.Proofs.YtjelacblnjbfgaaGreatDoor.Po
namespace Go.Proofs.YtjelacblnjbfgaaGreatDoor.Po
open Go.RowKit Go.Shelf Mem Go.Proofs.YtjelacblnjbfgaaGreatDoor.Sum Go.Proofs.YtjelacblnjbfgaaGreatDoor.Range Sha
attribute [local go_sem] Oper.semAt_some
theorem pieces_any (A : Option Addr) (m c : Nat) (w : World) :
    Calls Tryz.prog 84 #[.slice A m c] w fun e w' => e = .returned (.func (.func 103) #[] #[.pointer (some ⟨w.heap.size, 0, none⟩)]) ∧ w' = w.alloc (.cells #[.slice A m c] 89) := by
  go_enter Tryz.func84, Tryz.ntmps84
  go_wp2
  go_ret
  exact ⟨rfl, rfl⟩
set_option maxRecDepth 100000 in
set_option maxHeartbeats 2000000 in
theorem pieces_far (n bx B : Nat) (S : Nat → Prop) (A : Option Addr) (m c : Nat) (vs : List Value) (xss : List (List Int)) (w : World) (hbx : w.cell? ⟨bx, 0, none⟩ = some (.slice A m c)) (h : Vals w B A m vs) (ht : Texts w B vs xss)
    (hB : B ≤ w.heap.size) (hS : ∀ b, S b → B ≤ b ∧ b < w.heap.size) (hm : m ≤ 1073741824) (hn : xss.flatten.length ≤ 1099511627776) (hbs : Bs xss.flatten) :
    SeqFar Fence.wide n Tryz.prog 103 #[.pointer (some ⟨bx, 0, none⟩)] (fun bs => #[.agg (arr .u8 bs)]) (Only S) (pieces xss.flatten) w := by
  intro l J W hW hJ hY h0
  have hbx' := (hW.cell (p := ⟨bx, 0, none⟩) (World.block_lt_of_cell? w _ hbx)).trans hbx
  have hs := hW.size
  refine callsIn_of_wp Tryz.func103 rfl trivial ?_ rfl
  simp only [Tryz.ntmps103, List.size_toArray, List.length_cons, List.length_nil, Nat.reduceAdd, Nat.reduceSub, Array.replicate_succ, Array.replicate_zero, List.push_toArray, List.append_toArray, List.nil_append, List.cons_append]
  gi_wp2_with (refine wpListIn_alloc_Row rfl 113 rfl .u8 17 zero_17 ?_; intro w2 rb g2 z2; have hbx2 : w2.cell? ⟨bx, 0, none⟩ = some (.slice A m c) := (World.cell?_of_block (w := W) (w' := w2) (a := ⟨bx, 0, none⟩) (g2.block bx (World.block_lt_of_cell? _ _ hbx') (by simp))).trans hbx')
  have hw2 : Below W.heap.size W w2 := (Below.refl _ W).grown g2 (Nat.le_refl _) (by simp)
  have hJ2 := hJ [] W w2 none h0 (grown_of_below hw2 none) (fun r e => by cases e)
  have htn : Texts w2 B vs xss := (ht.below (hW.mono hB)).below (hw2.mono (by omega))
  have hvn : Vals w2 B A m vs := (h.below (hW.mono hB)).below (hw2.mono (by omega))
  have hSB : ∀ b, b < B → ¬ (S b ∨ b = W.heap.size) := fun b hb e => by
    rcases e with e | e
    · have := (hS b e).1; omega
    · omega
  have hWS : ¬ S W.heap.size := fun e => by have := (hS _ e).2; omega
  have hall : ∀ k, k < m → ∃ b off A' n' c', A = some ⟨b, off, none⟩ ∧ b < B ∧ w2.cell? ⟨b, off + k, none⟩ = some (.slice A' n' c') ∧ n' ≤ c' ∧ c' ≤ maxLen ∧ IntsN w2 .u8 (fun b => S b ∨ b = W.heap.size) A' n' (xss.getD k []) := fun k hk => by
    obtain ⟨b, off, e, hb, hc⟩ := hvn.at_ hk
    obtain ⟨A', n', c', e3, h3, h4, h5⟩ := htn.2 k (by rw [h.1]; exact hk)
    rw [e3] at hc
    exact ⟨b, off, A', n', c', e, hb, hc, h3, h4, IntsN.of h5 hSB⟩
  have HX := Lib.hid (show xss.length = m from ht.1.symm.trans h.1)
  clear h ht htn hvn hbx hbx' hbx2 hw2
  have hflat := fun k => flat_le xss k
  have hget := fun k (hk : k < xss.length) => flat_get xss k hk
  have hend : (xss.take m).flatten = xss.flatten := by rw [List.take_of_length_le (by rw [HX.out]; exact Nat.le_refl _)]
  obtain ⟨M, hM⟩ : ∃ M, xss.flatten = M := ⟨_, rfl⟩
  rw [hM] at hn hbs hY hend
  simp only [hM] at hflat hget
  have HMX := Lib.hid hM
  have HEND := Lib.hid hend
  clear hM hend
  have HFL := Lib.hid hflat
  have HGT := Lib.hid hget
  clear hflat hget
  have HN := Lib.hid hn
  clear hn
  have hm' : (m : Int) ≤ 1073741824 := by omega
  gi_loopw [4, 10] (fun f i wr => ∃ k p : Nat, k ≤ m ∧ i = .int .i64 k ∧ Hid (p = (xss.take k).flatten.length) ∧ f = .int .i64 ((p % 16 : Nat) : Int) ∧ J ((pieces M).take (p / 16)) wr ∧ Only (fun b => S b ∨ b = W.heap.size) w2 wr ∧
    Row wr W.heap.size 113 .u8 (cur M p)) (fun _ i _ => m - (intOf i).toNat)
  case atStart => exact ⟨0, 0, by omega, rfl, Lib.hid (by simp), rfl, by simpa using hJ2, Only.refl _ _, by rw [cur_start _ rfl]; exact rb⟩
  case round =>
    clear hJ2 rb
    obtain ⟨k, p, hk, rfl, hp, rfl, hJp, hon, hcur⟩ := hrel
    by_cases hlt : k < m
    · obtain ⟨b1, off1, A1, n1, c1, rfl, hb1, hc1, hn1, hm1, hi1⟩ := hall k hlt
      have hc1' := hon.cell (p := ⟨b1, off1 + k, none⟩) (hSB b1 hb1) hc1
      have hlt' : (k : Int) < (m : Int) := by omega
      have hk0 : (0 : Int) ≤ (k : Int) := by omega
      have hkl : k < xss.length := by rw [HX.out]; exact hlt
      have hq : p + n1 = (xss.take (k + 1)).flatten.length := by rw [flat_take xss hkl, hi1.1, ← hp.out]
      have hqm := HFL.out (k + 1)
      have htx := HGT.out k hkl
      rw [hi1.1, ← hp.out] at htx
      rw [htx] at hi1
      obtain ⟨q, hq2⟩ : ∃ q, (xss.take (k + 1)).flatten.length = q := ⟨_, rfl⟩
      have HQ2 := Lib.hid hq2.symm
      rw [hq2] at hq hqm
      clear hq2
      have HQ := Lib.hid hq
      clear hq htx hp hc1 hall
      gi_wp2_with fail
      gi_loopw [4, 6] (fun f a wr => ∃ p n' : Nat, ∃ A' c', f = .int .i64 ((p % 16 : Nat) : Int) ∧ a = .slice A' n' c' ∧ n' ≤ c' ∧ c' ≤ maxLen ∧ Hid (p + n' = q) ∧ IntsN w2 .u8 (fun b => S b ∨ b = W.heap.size) A' n' ((M.drop p).take n') ∧
        J ((pieces M).take (p / 16)) wr ∧ Only (fun b => S b ∨ b = W.heap.size) w2 wr ∧ Row wr W.heap.size 113 .u8 (cur M p)) (fun _ a _ => lenV a)
      case atStart => exact ⟨p, n1, A1, c1, rfl, rfl, hn1, hm1, HQ, hi1, hJp, hon, hcur⟩
      case round =>
        clear hi1 hJp hon hcur hn1 hm1 HQ
        obtain ⟨p, n', A', c', rfl, rfl, hn1, hm1, hq, hi1, hJp, hon, hcur⟩ := hrel
        by_cases hpos : 0 < n'
        · obtain ⟨b, off, rfl, hbN, hcc⟩ := hi1.2.2 hpos
          have hcw : ∀ i, i < n' → wr.cell? ⟨b, off + i, none⟩ = some (.int .u8 (((M.drop p).take n').getD i 0)) := fun i hi => hon.cell (p := ⟨b, off + i, none⟩) hbN (hcc i hi)
          obtain ⟨mm, hmm⟩ : ∃ mm, min n' (16 - p % 16) = mm := ⟨_, rfl⟩
          have hstep := cur_step (m := M) (p := p) (n := n') hmm.symm (by have := hq.out; omega)
          have hcl : (cur M p).length = 17 := cur_length (by have := hq.out; omega)
          have HXW := Lib.hid hi1.2.1
          have HCL := Lib.hid hcl
          have HXL := Lib.hid hi1.1
          have hf16 : p % 16 < 16 := Nat.mod_lt _ (by omega)
          have hmm1 : 0 < mm := by omega
          have hmm2 : mm ≤ n' := by omega
          have hmm3 : mm ≤ 16 - p % 16 := by omega
          have HMM := Lib.hid hmm
          clear hcl hmm hcc
          obtain ⟨f, hf⟩ : ∃ f, p % 16 = f := ⟨_, rfl⟩
          have HF := Lib.hid hf
          rw [hf] at hstep HMM hf16 hmm3 ⊢
          clear hf
          have HST := Lib.hid hstep
          clear hstep
          have hfi : (f : Int) < 16 := by omega
          have hmi : (mm : Int) ≤ 16 - (f : Int) := by omega
          have hmi0 : (0 : Int) < (mm : Int) := by omega
          have hfi0 : (0 : Int) ≤ (f : Int) := by omega
          have hmi2 : (mm : Int) ≤ (n' : Int) := by omega
          have hsl : ∀ W', (Instr.sliceAt 113 (.pointer (some ⟨W.heap.size, 0, none⟩)) (some (.int .i64 (f : Int))) (some (.int .i64 16)) none).run Tryz.prog W' = .ok (.slice (some ⟨W.heap.size, f, none⟩) (16 - f) (17 - f)) W' := fun W' => run_slice_arr_lh (P := Tryz.prog) 113 5 17 W.heap.size f 16 W' Tryz.underlying113 (by kernel_rfl) (by omega) (by omega) (by omega)
          have hcutN := hi1.cut hmm2 hn1
          rw [List.drop_take, List.drop_drop] at hcutN
          have HQ' := Lib.hid (show p + mm + (n' - mm) = q by have := hq.out; omega)
          have farN : ∀ {X Y : World} {row : Option Nat} {s}, J s X → X.grownBy Y row → (∀ r, row = some r → W.heap.size ≤ r) → J s Y := fun h1 h2 h3 => hJ _ _ _ _ h1 h2 h3
          by_cases hz : f + mm = 16
          · have hzi : (f : Int) + (mm : Int) = 16 := by omega
            have HZ0 := Lib.hid hz
            rw [if_pos hz] at HST
            have hfull := pieceAt_full (m := M) (k := p / 16) (by have := hq.out; have := HF.out; omega)
            have HFULL := Lib.hid hfull
            have hkc : p / 16 < count M := by unfold count; have := hq.out; have := HF.out; omega
            have HTK := Lib.hid (pieces_take M hkc)
            have HPL := Lib.hid (pieceAt_length M (p / 16))
            have HZ := Lib.hid (show (p + mm) % 16 = 0 by have := HF.out; omega)
            have HD := Lib.hid (show (p + mm) / 16 = p / 16 + 1 by have := HF.out; omega)
            have HCS := Lib.hid (cur_start M HZ.out)
            have HCH := Lib.hid (show (chunk M (p / 16) ++ [0]).length = 17 by rw [List.length_append, chunk_length]; have := hq.out; have := HF.out; simp; omega)
            clear hfull hz
            by_cases hcm : c' = mm
            · rw [if_pos hcm] at hcutN
              subst hcm
              have HQ0 := Lib.hid (show p + c' + 0 = q by have := hq.out; omega)
              have hz0 : IntsN w2 .u8 (fun b => S b ∨ b = W.heap.size) (some ⟨b, off, none⟩) 0 ((M.drop (p + c')).take 0) := ⟨by simp, by simp, fun h => absurd h (by omega)⟩
              gi_wp2_with (first
                | (refine wpListIn_copy_RowTo rfl _ _ 27 27 rfl 5 Tryz.underlying27 info_u8 W.heap.size f (16 - f) (17 - f) (some ⟨b, off, none⟩) n' c' rfl rfl 113 .u8 _ _ hcur (fun _ => ⟨b, off, rfl, hcw⟩) HXL.out HXW.out c' HMM.out.symm hmm1 (by rw [HCL.out]; omega) ?_; intro w3 r3 g3 z3; rw [HST.out] at r3)
                | (refine wpListIn_store_elem (w := w3) rfl 5 _ _ rfl W.heap.size 16 rfl 113 .u8 _ 1 rfl r3 (by rw [HCH.out]; omega) info_u8 rfl ?_; intro w4 r4 g4 z4; rw [HFULL.out] at r4; have J4 := farN (farN hJp g3 (fun r e => by cases e; exact Nat.le_refl _)) g4 (fun r e => by cases e; exact Nat.le_refl _); obtain ⟨fn, tmps, assign, body, hy, hR⟩ := hY _ (pieceAt M (p / 16)) _ J4 (by rw [HTK.out]; exact List.take_prefix _ _))
                | (refine wpListIn_load_Row (w := w4) rfl 113 _ rfl W.heap.size rfl 113 .u8 _ r4 17 5 Tryz.underlying113 info_17 HPL.out ?_))
              have o4 := (hon.trans (Only.of_grown g3 (fun r e => by cases e; exact .inr rfl))).trans (Only.of_grown g4 (fun r e => by cases e; exact .inr rfl))
              refine ⟨fun h => (by cases h), ?_⟩
              refine hR.mono ?_
              rintro e W4 ⟨rfl, J5, k5⟩
              have o5 := o4.trans (k5.mono (fun i e => .inl e))
              have r5 := k5.row hWS r4
              rw [HTK.out] at J5
              clear o4 J4 hR hy r3 g3 z3 r4 g4 z4 k5
              gi_wp2_with (first
                | (refine wpListIn_build_Row rfl 113 _ rfl .u8 (List.replicate 17 0) (by kernel_rfl) ?_)
                | (refine wpListIn_store_RowTo (w := W4) rfl 113 _ _ rfl W.heap.size rfl 113 .u8 _ (List.replicate 17 0) rfl r5 17 info_17 (by simp) HPL.out (zeros_wf .u8 17) ?_; intro w6 r6 g6 z6))
              have J6 := farN J5 g6 (fun r e => by cases e; exact Nat.le_refl _)
              have o6 := o5.trans (Only.of_grown g6 (fun r e => by cases e; exact .inr rfl))
              go_roundw
              case rel => exact ⟨p + c', 0, _, _, by rw [HZ.out]; rfl, rfl, by omega, by omega, HQ0, hz0, by rw [HD.out]; exact J6, o6, by rw [HCS.out]; exact r6⟩
              case measure => simp [lenV]; omega
            · rw [if_neg hcm] at hcutN
              gi_wp2_with (first
                | (refine wpListIn_copy_RowTo rfl _ _ 27 27 rfl 5 Tryz.underlying27 info_u8 W.heap.size f (16 - f) (17 - f) (some ⟨b, off, none⟩) n' c' rfl rfl 113 .u8 _ _ hcur (fun _ => ⟨b, off, rfl, hcw⟩) HXL.out HXW.out mm HMM.out.symm hmm1 (by rw [HCL.out]; omega) ?_; intro w3 r3 g3 z3; rw [HST.out] at r3)
                | (refine wpListIn_store_elem (w := w3) rfl 5 _ _ rfl W.heap.size 16 rfl 113 .u8 _ 1 rfl r3 (by rw [HCH.out]; omega) info_u8 rfl ?_; intro w4 r4 g4 z4; rw [HFULL.out] at r4; have J4 := farN (farN hJp g3 (fun r e => by cases e; exact Nat.le_refl _)) g4 (fun r e => by cases e; exact Nat.le_refl _); obtain ⟨fn, tmps, assign, body, hy, hR⟩ := hY _ (pieceAt M (p / 16)) _ J4 (by rw [HTK.out]; exact List.take_prefix _ _))
                | (refine wpListIn_load_Row (w := w4) rfl 113 _ rfl W.heap.size rfl 113 .u8 _ r4 17 5 Tryz.underlying113 info_17 HPL.out ?_))
              have o4 := (hon.trans (Only.of_grown g3 (fun r e => by cases e; exact .inr rfl))).trans (Only.of_grown g4 (fun r e => by cases e; exact .inr rfl))
              refine ⟨fun h => (by cases h), ?_⟩
              refine hR.mono ?_
              rintro e W4 ⟨rfl, J5, k5⟩
              have o5 := o4.trans (k5.mono (fun i e => .inl e))
              have r5 := k5.row hWS r4
              rw [HTK.out] at J5
              clear o4 J4 hR hy r3 g3 z3 r4 g4 z4 k5
              gi_wp2_with (first
                | (refine wpListIn_build_Row rfl 113 _ rfl .u8 (List.replicate 17 0) (by kernel_rfl) ?_)
                | (refine wpListIn_store_RowTo (w := W4) rfl 113 _ _ rfl W.heap.size rfl 113 .u8 _ (List.replicate 17 0) rfl r5 17 info_17 (by simp) HPL.out (zeros_wf .u8 17) ?_; intro w6 r6 g6 z6))
              have J6 := farN J5 g6 (fun r e => by cases e; exact Nat.le_refl _)
              have o6 := o5.trans (Only.of_grown g6 (fun r e => by cases e; exact .inr rfl))
              go_roundw
              case rel => exact ⟨p + mm, n' - mm, _, _, by rw [HZ.out]; rfl, rfl, by omega, by omega, HQ', hcutN, by rw [HD.out]; exact J6, o6, by rw [HCS.out]; exact r6⟩
              case measure => simp [lenV]; omega
          · have hzi : ¬ (f : Int) + (mm : Int) = 16 := by omega
            rw [if_neg hz] at HST
            have HE := Lib.hid (show (f : Int) + (mm : Int) = (((p + mm) % 16 : Nat) : Int) by have := HF.out; omega)
            have HD := Lib.hid (show (p + mm) / 16 = p / 16 by have := HF.out; omega)
            clear hz
            by_cases hcm : c' = mm
            · rw [if_pos hcm] at hcutN
              subst hcm
              have HQ0 := Lib.hid (show p + c' + 0 = q by have := hq.out; omega)
              have hz0 : IntsN w2 .u8 (fun b => S b ∨ b = W.heap.size) (some ⟨b, off, none⟩) 0 ((M.drop (p + c')).take 0) := ⟨by simp, by simp, fun h => absurd h (by omega)⟩
              gi_wp2_with (refine wpListIn_copy_RowTo rfl _ _ 27 27 rfl 5 Tryz.underlying27 info_u8 W.heap.size f (16 - f) (17 - f) (some ⟨b, off, none⟩) n' c' rfl rfl 113 .u8 _ _ hcur (fun _ => ⟨b, off, rfl, hcw⟩) HXL.out HXW.out c' HMM.out.symm hmm1 (by rw [HCL.out]; omega) ?_; intro w3 r3 g3 z3; rw [HST.out] at r3)
              have J4 := farN hJp g3 (fun r e => by cases e; exact Nat.le_refl _)
              have o4 := hon.trans (Only.of_grown g3 (fun r e => by cases e; exact .inr rfl))
              go_roundw
              case rel => exact ⟨p + c', 0, _, _, by rw [HE.out], rfl, by omega, by omega, HQ0, hz0, by rw [HD.out]; exact J4, o4, r3⟩
              case measure => simp [lenV]; omega
            · rw [if_neg hcm] at hcutN
              gi_wp2_with (refine wpListIn_copy_RowTo rfl _ _ 27 27 rfl 5 Tryz.underlying27 info_u8 W.heap.size f (16 - f) (17 - f) (some ⟨b, off, none⟩) n' c' rfl rfl 113 .u8 _ _ hcur (fun _ => ⟨b, off, rfl, hcw⟩) HXL.out HXW.out mm HMM.out.symm hmm1 (by rw [HCL.out]; omega) ?_; intro w3 r3 g3 z3; rw [HST.out] at r3)
              have J4 := farN hJp g3 (fun r e => by cases e; exact Nat.le_refl _)
              have o4 := hon.trans (Only.of_grown g3 (fun r e => by cases e; exact .inr rfl))
              go_roundw
              case rel => exact ⟨p + mm, n' - mm, _, _, by rw [HE.out], rfl, by omega, by omega, HQ', hcutN, by rw [HD.out]; exact J4, o4, r3⟩
              case measure => simp [lenV]; omega
        · have hn0 : n' = 0 := by omega
          subst hn0
          have hpq : Hid (p = q) := Lib.hid (by have := hq.out; omega)
          gi_wp2_with fail
          go_roundw
          case rel => exact ⟨k + 1, q, by omega, by go_num, HQ2, by rw [← hpq.out], by rw [← hpq.out]; exact hJp, hon, by rw [← hpq.out]; exact hcur⟩
          case measure => simp [intOf]; omega
    · have hkm : k = m := by omega
      subst hkm
      have hpe : p = M.length := by rw [hp.out, HEND.out]
      have HPE := Lib.hid hpe
      clear hpe hp hall
      by_cases hz : p % 16 = 0
      · have hall2 : (pieces M).take (p / 16) = pieces M := List.take_of_length_le (by rw [pieces_length]; unfold count; have := HPE.out; omega)
        have HA := Lib.hid hall2
        clear hall2
        gi_wp2_with fail
        go_end0
        exact ⟨⟨_, rfl⟩, by rw [HMX.out, ← HA.out]; exact hJp⟩
      · obtain ⟨f, hf⟩ : ∃ f, p % 16 = f := ⟨_, rfl⟩
        have hkc : p / 16 < count M := by unfold count; have := HPE.out; omega
        have hTK := pieces_take M hkc
        rw [List.take_of_length_le (i := p / 16 + 1) (by rw [pieces_length]; unfold count; have := HPE.out; omega)] at hTK
        have HTK := Lib.hid hTK
        have hlast := cur_last (m := M) (by rw [← HPE.out]; exact hz)
        rw [← HPE.out, hf] at hlast
        have HLAST := Lib.hid hlast
        have HCL := Lib.hid (show (cur M p).length = 17 from cur_length (by have := HPE.out; omega))
        have HPL := Lib.hid (pieceAt_length M (p / 16))
        have hf16 : f < 16 := by omega
        have hf0 : (0 : Int) < (f : Int) := by omega
        have hf17 : (f : Int) < 17 := by omega
        rw [hf]
        clear hf hz hlast hTK hkc
        gi_wp2_with (first
          | (refine wpListIn_store_elem (w := wr) rfl 5 _ _ rfl W.heap.size f rfl 113 .u8 _ 1 rfl hcur (by rw [HCL.out]; omega) info_u8 rfl ?_; intro w4 r4 g4 z4; rw [HLAST.out] at r4; have J4 := hJ _ _ _ _ hJp g4 (fun r e => by cases e; exact Nat.le_refl _); obtain ⟨fn, tmps, assign, body, hy, hR⟩ := hY _ (pieceAt M (p / 16)) _ J4 (by rw [HTK.out]; exact List.prefix_refl _))
          | (refine wpListIn_load_Row (w := w4) rfl 113 _ rfl W.heap.size rfl 113 .u8 _ r4 17 5 Tryz.underlying113 info_17 HPL.out ?_))
        refine ⟨fun h => (by cases h), ?_⟩
        refine hR.mono ?_
        rintro e W4 ⟨rfl, J5, k5⟩
        rw [HTK.out] at J5
        gi_wp2_with fail
        go_end0
        exact ⟨⟨_, rfl⟩, by rw [HMX.out]; exact J5⟩
end Go.Proofs.YtjelacblnjbfgaaGreatDoor.Po
