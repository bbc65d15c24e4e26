/-
  The document's own run of operations that emit nothing, by its contract.
  The document's own Fold and Finish, by their contracts.
-/
import Derived.Test.YtkiempdpfmolfaaB7
import Derived.Test.YtkiempdpfmolfaaB10
set_option linter.unusedVariables false
namespace Go.Proofs.Ytkiempdpfmolfaa.Cn
open Go.RowKit Go.Shelf Go.Proofs.Ytkiempdpfmolfaa Mem Held Ct Rc Rs Sl Vm
attribute [local irreducible] wpList wpListIn Calls
theorem size_i64 : (Try.prog.info? 2).map (·.size) = some 1 := by kernel_rfl
theorem zero_regs : (Try.prog.info? 73).bind (·.zero) = some (.agg (arr .i64 (List.replicate 8 0))) := by kernel_rfl
theorem info_regs : (Try.prog.info? 73).map (·.size) = some 8 := by kernel_rfl
theorem low6s (b : Int) (hb : (Lit.int .i64 b).wf = true) : bits .and .i64 b 63 = (((b % 64).toNat : Nat) : Int) := by
  have h := low6 b hb
  have e : BitVec.ofInt 64 (IntKind.u64.wrap b) = BitVec.ofInt 64 b := by
    apply BitVec.eq_of_toInt_eq
    rw [IntKind.wrap_u64]
    simp only [BitVec.toInt_ofInt]
    exact Int.emod_bmod ..
  obtain ⟨x, hx⟩ : ∃ x : BitVec 64, BitVec.ofInt 64 b &&& BitVec.ofInt 64 63 = x := ⟨_, rfl⟩
  have h : IntKind.u64.wrap ((BitVec.ofInt 64 (IntKind.u64.wrap b) &&& BitVec.ofInt 64 63).toNat : Int) = (((b % 64).toNat : Nat) : Int) := h
  rw [e, hx, IntKind.wrap_u64] at h
  show IntKind.i64.wrap ((BitVec.ofInt 64 b &&& BitVec.ofInt 64 63).toNat : Int) = _
  rw [hx, IntKind.wrap_i64]
  have hxl : x.toNat < 18446744073709551616 := x.isLt
  omega
theorem rone_i64 (b : Bool) (w : World) : Calls Try.prog 51 #[.bool b] w fun e w' => e = .returned (.int .i64 (oneI b)) ∧ Below w.heap.size w w' := by
  cases b
  all_goals
    go_enter Try.func51, Try.ntmps51
    go_wp2
    go_ret
    exact ⟨rfl, Below.refl _ _⟩
set_option maxRecDepth 100000 in
set_option maxHeartbeats 32000000 in
theorem rrun_any (B : Nat) (A : Option Addr) (n c : Nat) (xs : List O) (rs0 : List Int) (w : World) (h : Lst kO w B A n xs) (hB : B ≤ w.heap.size) (h8 : rs0.length = 8) (hf : Fit rs0) (hm : ∀ x ∈ xs, mayO x 0 = true) (hn : n ≤ 1048576) :
    Calls Try.prog 42 #[.slice A n c, .agg (arr .i64 rs0), .slice none 0 0, .int .i64 0] w fun e w' => e = .returned (.tuple #[.agg (arr .i64 (runR xs rs0)), .slice none 0 0]) ∧ Below w.heap.size w w' := by
  have HL := Lib.hid h.1
  have HRL := Lib.hid (fun l => (runR_length l rs0).trans h8)
  have HRF := Lib.hid (fun i => Fit.run hf (l := xs.take i) (fun o ho => h.2.1 o (List.mem_of_mem_take ho)))
  have HMX := Lib.hid (fun i (hi : i < n) => hm (xs.getD i O0) (by rw [List.getD_eq_getElem?_getD, List.getElem?_eq_getElem (by rw [h.1]; exact hi)]; exact List.getElem_mem _))
  have HSN := Lib.hid (fun i (hi : i < n) => show runR (xs.take (i + 1)) rs0 = stepR (xs.getD i O0) (runR (xs.take i) rs0) by
    have hi' : i < xs.length := by rw [h.1]; exact hi
    rw [List.take_add_one, List.getElem?_eq_getElem hi', runR_append, List.getD_eq_getElem?_getD, List.getElem?_eq_getElem hi']
    rfl)
  clear hm
  go_enter Try.func42, Try.ntmps42
  go_wp2_with (first
    | (refine wpList_box_Row (w := w) rfl 73 _ rfl .i64 rs0 rfl hf ?_; intro u1 r1 g1 z1)
    | (refine wpList_alloc_Row (w := u1) rfl 73 rfl .i64 8 zero_regs ?_; intro u2 r2 g2 z2))
  have b2 : Below w.heap.size w u2 := ((Below.refl _ w).grown g1 (Nat.le_refl _) (by simp)).grown g2 g1.size (by simp)
  have l1 : w.heap.size < u1.heap.size := r1.lt
  have r1 := r1.grown g2 (by simp)
  clear g1 g2 z1 z2 hf h8
  go_loopw [10] (fun t wr => ∃ i : Nat, i ≤ n ∧ t = .int .i64 i ∧ Row wr w.heap.size 73 .i64 (runR (xs.take i) rs0) ∧ Row wr u1.heap.size 73 .i64 (List.replicate 8 0) ∧ Below w.heap.size w wr) (fun t _ => n - (intOf t).toNat)
  case atStart => exact ⟨0, by omega, rfl, r1, r2, b2⟩
  case round =>
    clear r1 r2 b2
    obtain ⟨i, hi, rfl, qr, q2, bw⟩ := hrel
    by_cases hlt : i < n
    · obtain ⟨b, off, rfl, hb1, hx⟩ := (h.below (bw.mono hB)).at_ hlt
      have hx : wr.rangeAt b (off + i * 6) (xs.getD i O0).cells := hx
      have hwo : (xs.getD i O0).wf := h.wf_at hlt
      obtain ⟨hc1, hc12, ⟨hd0, hd8⟩, ⟨ha0, ha8⟩, ⟨hb0, hb8⟩, ⟨hcc0, hcc8⟩, he⟩ := mayO_says (HMX.out i hlt)
      have HNX := Lib.hid (HSN.out i hlt)
      have HFT := HRF.out i
      have HL8 := Lib.hid (HRL.out (xs.take i))
      generalize runR (xs.take i) rs0 = zs at qr HNX HFT HL8
      generalize xs.getD i O0 = x at *
      obtain ⟨code, rd, ra, rb, rc, nn⟩ := x
      dsimp only at *
      have hnn : (Lit.int .i64 nn).wf = true := hwo.2.2.2.2.2
      clear hwo
      have hc11 : code ≤ 11 := by
        by_cases h12 : code = 12
        · have := he h12; omega
        · omega
      clear hc12 he
      obtain ⟨rd, rfl⟩ := Int.eq_ofNat_of_zero_le hd0
      obtain ⟨ra, rfl⟩ := Int.eq_ofNat_of_zero_le ha0
      obtain ⟨rb, rfl⟩ := Int.eq_ofNat_of_zero_le hb0
      obtain ⟨rc, rfl⟩ := Int.eq_ofNat_of_zero_le hcc0
      have hrd : rd < 8 := by omega
      have hra : ra < 8 := by omega
      have hrb : rb < 8 := by omega
      have hrc : rc < 8 := by omega
      have hx : wr.rangeAt b (off + i * 6) [.int .i64 code, .int .i64 (rd : Int), .int .i64 (ra : Int), .int .i64 (rb : Int), .int .i64 (rc : Int), .int .i64 nn] := hx
      obtain ⟨a, hae⟩ : ∃ a, zs.getD ra 0 = a := ⟨_, rfl⟩
      obtain ⟨bv, hbe⟩ : ∃ bv, zs.getD rb 0 = bv := ⟨_, rfl⟩
      obtain ⟨cv, hce⟩ : ∃ cv, zs.getD rc 0 = cv := ⟨_, rfl⟩
      have hav : (Lit.int .i64 a).wf = true := hae ▸ HFT.at_ ra
      have hbv : (Lit.int .i64 bv).wf = true := hbe ▸ HFT.at_ rb
      have hcv : (Lit.int .i64 cv).wf = true := hce ▸ HFT.at_ rc
      have HS := Lib.hid (fun j (hj : code = j) => show stepR ⟨code, rd, ra, rb, rc, nn⟩ zs = zs.set rd (opV ⟨j, rd, ra, rb, rc, nn⟩ a bv cv) by
        rw [stepR, if_neg (by dsimp only; omega), ← hj]
        dsimp only
        rw [reg, reg, reg, Int.toNat_natCast, Int.toNat_natCast, Int.toNat_natCast, Int.toNat_natCast, hae, hbe, hce])
      have Hra := Lib.hid hae
      have Hrb := Lib.hid hbe
      have Hrc := Lib.hid hce
      have hww : w.heap.size < wr.heap.size := qr.lt
      have HBW := Lib.hid (fun X (hX : Below wr.heap.size wr X) => bw.trans (hX.mono bw.size))
      have HBQ := Lib.hid (fun X (hX : Below wr.heap.size wr X) => q2.below hX q2.lt)
      have hlt' : (i : Int) < (n : Int) := by omega
      have hi0 : (0 : Int) ≤ (i : Int) := by omega
      clear hd0 hd8 ha0 ha8 hb0 hb8 hcc0 hcc8 hae hbe hce HFT bw q2
      go_wp2_with (first
        | (refine wpList_run (w := wr) rfl (v := .pointer (some ⟨b, off + i * 6, none⟩)) (Held.y_addr (S := fun _ => True) rfl rfl rfl (run_addr_of (P := Try.prog) 22 50 b off n c i 6 .i64 Try.underlying22 size_op hlt) _ trivial) ?_)
        | (refine wpList_run (w := wr) rfl (v := .agg #[.int .i64 code, .int .i64 (rd : Int), .int .i64 (ra : Int), .int .i64 (rb : Int), .int .i64 (rc : Int), .int .i64 nn]) (y_load_range (S := fun W => W = wr) (n := 6) (cs := [.int .i64 code, .int .i64 (rd : Int), .int .i64 (ra : Int), .int .i64 (rb : Int), .int .i64 (rc : Int), .int .i64 nn]) rfl rfl Try.underlying50 rfl size_op rfl (fun W hW => by rw [hW]; exact hx) _ rfl) ?_)
        | (refine wpList_alloc_blk (w := wr) rfl 50 rfl _ zero_op ?_; intro v2 q2 g2 z2)
        | (refine wpList_store_blk (w := v2) rfl 50 _ _ rfl wr.heap.size 6 rfl 50 _ #[.int .i64 code, .int .i64 (rd : Int), .int .i64 (ra : Int), .int .i64 (rb : Int), .int .i64 (rc : Int), .int .i64 nn] rfl q2 size_op rfl rfl (by kernel_rfl) ?_; intro w8 q8 g3 z3; have b8 : Below wr.heap.size wr w8 := ((Below.refl _ wr).grown g2 (Nat.le_refl _) (by simp)).grown g3 g2.size (fun r e => by cases e; exact Nat.le_refl _); clear g2 g3 z2 z3 q2))
      have qr8 := qr.below b8 qr.lt
      have hr8 := q8.lt
      refine wp_region_held (S := fun W => Below w8.heap.size w8 W) (by kernel_rfl) ?_
      change wpAnyH _ _ _ _ _ _ _ _ w8.drew
      have c0_0 := (Below.refl w8.heap.size w8).drew
      refine Held.tk (v := .pointer (some ⟨wr.heap.size, 2, none⟩)) 0 (some 25) rfl (Held.y_field (k := 2) (s := 0) rfl rfl Try.underlying50 rfl (by kernel_rfl) rfl) c0_0 ?_
      simp only [Act.put, Z1, Z2, Z3]
      refine Held.tk (v := .int .i64 (ra : Int)) 1 (some 26) rfl (Held.y_load rfl rfl (by kernel_rfl) (fun X hX => (q8.below hX hr8).cell (i := 2) rfl)) c0_0 ?_
      simp only [Act.put, Z1, Z2, Z3]
      refine Held.tk (v := .pointer (some ⟨w.heap.size, ra, none⟩)) 2 (some 27) rfl (Held.y_addr rfl rfl rfl (Held.run_addr_arr 73 2 8 w.heap.size ra .i64 Try.underlying73 (by kernel_rfl) hra)) c0_0 ?_
      simp only [Act.put, Z1, Z2, Z3]
      refine Held.tk (v := .int .i64 a) 3 (some 28) rfl (Held.y_load rfl rfl (by kernel_rfl) (fun X hX => by rw [← Hra.out]; exact (qr8.below hX qr8.lt).cell (by rw [HL8.out]; exact hra))) c0_0 ?_
      simp only [Act.put, Z1, Z2, Z3]
      refine Held.tk (v := .pointer (some ⟨wr.heap.size, 3, none⟩)) 4 (some 29) rfl (Held.y_field (k := 3) (s := 0) rfl rfl Try.underlying50 rfl (by kernel_rfl) rfl) c0_0 ?_
      simp only [Act.put, Z1, Z2, Z3]
      refine Held.tk (v := .int .i64 (rb : Int)) 5 (some 30) rfl (Held.y_load rfl rfl (by kernel_rfl) (fun X hX => (q8.below hX hr8).cell (i := 3) rfl)) c0_0 ?_
      simp only [Act.put, Z1, Z2, Z3]
      refine Held.tk (v := .pointer (some ⟨w.heap.size, rb, none⟩)) 6 (some 31) rfl (Held.y_addr rfl rfl rfl (Held.run_addr_arr 73 2 8 w.heap.size rb .i64 Try.underlying73 (by kernel_rfl) hrb)) c0_0 ?_
      simp only [Act.put, Z1, Z2, Z3]
      refine Held.tk (v := .int .i64 bv) 7 (some 32) rfl (Held.y_load rfl rfl (by kernel_rfl) (fun X hX => by rw [← Hrb.out]; exact (qr8.below hX qr8.lt).cell (by rw [HL8.out]; exact hrb))) c0_0 ?_
      simp only [Act.put, Z1, Z2, Z3]
      refine Held.tk (v := .pointer (some ⟨wr.heap.size, 4, none⟩)) 8 (some 33) rfl (Held.y_field (k := 4) (s := 0) rfl rfl Try.underlying50 rfl (by kernel_rfl) rfl) c0_0 ?_
      simp only [Act.put, Z1, Z2, Z3]
      refine Held.tk (v := .int .i64 (rc : Int)) 9 (some 34) rfl (Held.y_load rfl rfl (by kernel_rfl) (fun X hX => (q8.below hX hr8).cell (i := 4) rfl)) c0_0 ?_
      simp only [Act.put, Z1, Z2, Z3]
      refine Held.tk (v := .pointer (some ⟨w.heap.size, rc, none⟩)) 10 (some 35) rfl (Held.y_addr rfl rfl rfl (Held.run_addr_arr 73 2 8 w.heap.size rc .i64 Try.underlying73 (by kernel_rfl) hrc)) c0_0 ?_
      simp only [Act.put, Z1, Z2, Z3]
      refine Held.tk (v := .int .i64 cv) 11 (some 36) rfl (Held.y_load rfl rfl (by kernel_rfl) (fun X hX => by rw [← Hrc.out]; exact (qr8.below hX qr8.lt).cell (by rw [HL8.out]; exact hrc))) c0_0 ?_
      simp only [Act.put, Z1, Z2, Z3]
      refine Held.tk (v := .int .i64 a) 12 (some 12) rfl (Held.y_assign rfl rfl) c0_0 ?_
      simp only [Act.put, Z1, Z2, Z3]
      refine Held.tk (v := .int .i64 bv) 13 (some 13) rfl (Held.y_assign rfl rfl) c0_0 ?_
      simp only [Act.put, Z1, Z2, Z3]
      refine Held.tk (v := .int .i64 cv) 14 (some 14) rfl (Held.y_assign rfl rfl) c0_0 ?_
      simp only [Act.put, Z1, Z2, Z3]
      refine wpAnyH_done (by kernel_rfl) ?_ _
      have q9 := q8.below c0_0 hr8
      have qr9 := qr8.below c0_0 qr8.lt
      have b9 := b8.trans (c0_0.mono b8.size)
      generalize w8.drew = w9 at q9 qr9 b9 ⊢
      clear q8 qr8 c0_0 b8 hx qr
      have d0 := q9.cell (i := 0) rfl
      have d1 := q9.cell (i := 1) rfl
      have d5 := q9.cell (i := 5) rfl
      rcases (show code = 1 ∨ code = 2 ∨ code = 3 ∨ code = 4 ∨ code = 5 ∨ code = 6 ∨ code = 7 ∨ code = 8 ∨ code = 9 ∨ code = 10 ∨ code = 11 by omega) with rfl | rfl | rfl | rfl | rfl | rfl | rfl | rfl | rfl | rfl | rfl
      · have HST := Lib.hid (HS.out 1 rfl)
        clear HS
        have HZW := Lib.hid hnn
        have HST := Lib.hid (HST.out.trans (show zs.set rd (opV ⟨1, rd, ra, rb, rc, nn⟩ a bv cv) = zs.set rd nn from rfl))
        go_wp2_with (first
          | (refine wpList_run (w := w9) rfl (v := .pointer (some ⟨wr.heap.size, 0, none⟩)) (Held.y_field (S := fun _ => True) (k := 0) (s := 0) rfl rfl Try.underlying50 rfl (by kernel_rfl) rfl _ trivial) ?_)
          | (refine wpList_run (w := w9) rfl (v := .pointer (some ⟨wr.heap.size, 1, none⟩)) (Held.y_field (S := fun _ => True) (k := 1) (s := 0) rfl rfl Try.underlying50 rfl (by kernel_rfl) rfl _ trivial) ?_)
          | (refine wpList_run (w := w9) rfl (v := .pointer (some ⟨wr.heap.size, 5, none⟩)) (Held.y_field (S := fun _ => True) (k := 5) (s := 0) rfl rfl Try.underlying50 rfl (by kernel_rfl) rfl _ trivial) ?_)
          | (refine wpList_run (w := w9) rfl (v := .pointer (some ⟨w.heap.size, rd, none⟩)) (Held.y_addr (S := fun _ => True) rfl rfl rfl (Held.run_addr_arr (P := Try.prog) 73 2 8 w.heap.size rd .i64 Try.underlying73 (by kernel_rfl) hrd) _ trivial) ?_)
          | (refine wpList_store_elem (w := w9) rfl 2 _ _ rfl w.heap.size rd rfl 73 .i64 _ nn rfl qr9 (by rw [HL8.out]; exact hrd) size_i64 HZW.out ?_; intro w10 qz g10 z10))
        have c10 := (HBW.out _ b9).grown g10 (HBW.out _ b9).size (fun r ee => by cases ee; exact Nat.le_refl _)
        have q10 := (HBQ.out _ b9).grown g10 (by intro ee; injection ee with ee; omega)
        go_roundw
        case rel => exact ⟨i + 1, by omega, by go_num, by rw [HNX.out, HST.out]; exact qz, q10, c10⟩
        case measure => simp [intOf]; omega
      · have HST := Lib.hid (HS.out 2 rfl)
        clear HS
        obtain ⟨z, hz⟩ : ∃ z, IntKind.i64.wrap (a + bv) = z := ⟨_, rfl⟩
        have HZ := Lib.hid hz
        have HZW := Lib.hid (show (Lit.int .i64 z).wf = true from hz ▸ i64_wf _)
        have HST := Lib.hid (HST.out.trans (show zs.set rd (opV ⟨2, rd, ra, rb, rc, nn⟩ a bv cv) = zs.set rd z by rw [← hz, w64]; rfl))
        clear hz
        go_wp2_with (first
          | (refine wpList_run (w := w9) rfl (v := .pointer (some ⟨wr.heap.size, 0, none⟩)) (Held.y_field (S := fun _ => True) (k := 0) (s := 0) rfl rfl Try.underlying50 rfl (by kernel_rfl) rfl _ trivial) ?_)
          | (refine wpList_run (w := w9) rfl (v := .pointer (some ⟨wr.heap.size, 1, none⟩)) (Held.y_field (S := fun _ => True) (k := 1) (s := 0) rfl rfl Try.underlying50 rfl (by kernel_rfl) rfl _ trivial) ?_)
          | (refine wpList_run (w := w9) rfl (v := .pointer (some ⟨wr.heap.size, 5, none⟩)) (Held.y_field (S := fun _ => True) (k := 5) (s := 0) rfl rfl Try.underlying50 rfl (by kernel_rfl) rfl _ trivial) ?_)
          | (refine wpList_run (w := w9) rfl (v := .int .i64 z) (Held.y_int (S := fun _ => True) rfl rfl rfl (Held.run_add 2 .i64 HZ.out) _ trivial) ?_)
          | (refine wpList_run (w := w9) rfl (v := .pointer (some ⟨w.heap.size, rd, none⟩)) (Held.y_addr (S := fun _ => True) rfl rfl rfl (Held.run_addr_arr (P := Try.prog) 73 2 8 w.heap.size rd .i64 Try.underlying73 (by kernel_rfl) hrd) _ trivial) ?_)
          | (refine wpList_store_elem (w := w9) rfl 2 _ _ rfl w.heap.size rd rfl 73 .i64 _ z rfl qr9 (by rw [HL8.out]; exact hrd) size_i64 HZW.out ?_; intro w10 qz g10 z10))
        have c10 := (HBW.out _ b9).grown g10 (HBW.out _ b9).size (fun r ee => by cases ee; exact Nat.le_refl _)
        have q10 := (HBQ.out _ b9).grown g10 (by intro ee; injection ee with ee; omega)
        go_roundw
        case rel => exact ⟨i + 1, by omega, by go_num, by rw [HNX.out, HST.out]; exact qz, q10, c10⟩
        case measure => simp [intOf]; omega
      · have HST := Lib.hid (HS.out 3 rfl)
        clear HS
        obtain ⟨z, hz⟩ : ∃ z, IntKind.i64.wrap (a - bv) = z := ⟨_, rfl⟩
        have HZ := Lib.hid hz
        have HZW := Lib.hid (show (Lit.int .i64 z).wf = true from hz ▸ i64_wf _)
        have HST := Lib.hid (HST.out.trans (show zs.set rd (opV ⟨3, rd, ra, rb, rc, nn⟩ a bv cv) = zs.set rd z by rw [← hz, w64]; rfl))
        clear hz
        go_wp2_with (first
          | (refine wpList_run (w := w9) rfl (v := .pointer (some ⟨wr.heap.size, 0, none⟩)) (Held.y_field (S := fun _ => True) (k := 0) (s := 0) rfl rfl Try.underlying50 rfl (by kernel_rfl) rfl _ trivial) ?_)
          | (refine wpList_run (w := w9) rfl (v := .pointer (some ⟨wr.heap.size, 1, none⟩)) (Held.y_field (S := fun _ => True) (k := 1) (s := 0) rfl rfl Try.underlying50 rfl (by kernel_rfl) rfl _ trivial) ?_)
          | (refine wpList_run (w := w9) rfl (v := .pointer (some ⟨wr.heap.size, 5, none⟩)) (Held.y_field (S := fun _ => True) (k := 5) (s := 0) rfl rfl Try.underlying50 rfl (by kernel_rfl) rfl _ trivial) ?_)
          | (refine wpList_run (w := w9) rfl (v := .int .i64 z) (Held.y_int (S := fun _ => True) rfl rfl rfl (Held.run_sub 2 .i64 HZ.out) _ trivial) ?_)
          | (refine wpList_run (w := w9) rfl (v := .pointer (some ⟨w.heap.size, rd, none⟩)) (Held.y_addr (S := fun _ => True) rfl rfl rfl (Held.run_addr_arr (P := Try.prog) 73 2 8 w.heap.size rd .i64 Try.underlying73 (by kernel_rfl) hrd) _ trivial) ?_)
          | (refine wpList_store_elem (w := w9) rfl 2 _ _ rfl w.heap.size rd rfl 73 .i64 _ z rfl qr9 (by rw [HL8.out]; exact hrd) size_i64 HZW.out ?_; intro w10 qz g10 z10))
        have c10 := (HBW.out _ b9).grown g10 (HBW.out _ b9).size (fun r ee => by cases ee; exact Nat.le_refl _)
        have q10 := (HBQ.out _ b9).grown g10 (by intro ee; injection ee with ee; omega)
        go_roundw
        case rel => exact ⟨i + 1, by omega, by go_num, by rw [HNX.out, HST.out]; exact qz, q10, c10⟩
        case measure => simp [intOf]; omega
      · have HST := Lib.hid (HS.out 4 rfl)
        clear HS
        obtain ⟨z, hz⟩ : ∃ z, IntKind.i64.wrap (a * bv) = z := ⟨_, rfl⟩
        have HZ := Lib.hid hz
        have HZW := Lib.hid (show (Lit.int .i64 z).wf = true from hz ▸ i64_wf _)
        have HST := Lib.hid (HST.out.trans (show zs.set rd (opV ⟨4, rd, ra, rb, rc, nn⟩ a bv cv) = zs.set rd z by rw [← hz, w64]; rfl))
        clear hz
        go_wp2_with (first
          | (refine wpList_run (w := w9) rfl (v := .pointer (some ⟨wr.heap.size, 0, none⟩)) (Held.y_field (S := fun _ => True) (k := 0) (s := 0) rfl rfl Try.underlying50 rfl (by kernel_rfl) rfl _ trivial) ?_)
          | (refine wpList_run (w := w9) rfl (v := .pointer (some ⟨wr.heap.size, 1, none⟩)) (Held.y_field (S := fun _ => True) (k := 1) (s := 0) rfl rfl Try.underlying50 rfl (by kernel_rfl) rfl _ trivial) ?_)
          | (refine wpList_run (w := w9) rfl (v := .pointer (some ⟨wr.heap.size, 5, none⟩)) (Held.y_field (S := fun _ => True) (k := 5) (s := 0) rfl rfl Try.underlying50 rfl (by kernel_rfl) rfl _ trivial) ?_)
          | (refine wpList_run (w := w9) rfl (v := .int .i64 z) (Held.y_int (S := fun _ => True) rfl rfl rfl (Held.run_mul 2 .i64 HZ.out) _ trivial) ?_)
          | (refine wpList_run (w := w9) rfl (v := .pointer (some ⟨w.heap.size, rd, none⟩)) (Held.y_addr (S := fun _ => True) rfl rfl rfl (Held.run_addr_arr (P := Try.prog) 73 2 8 w.heap.size rd .i64 Try.underlying73 (by kernel_rfl) hrd) _ trivial) ?_)
          | (refine wpList_store_elem (w := w9) rfl 2 _ _ rfl w.heap.size rd rfl 73 .i64 _ z rfl qr9 (by rw [HL8.out]; exact hrd) size_i64 HZW.out ?_; intro w10 qz g10 z10))
        have c10 := (HBW.out _ b9).grown g10 (HBW.out _ b9).size (fun r ee => by cases ee; exact Nat.le_refl _)
        have q10 := (HBQ.out _ b9).grown g10 (by intro ee; injection ee with ee; omega)
        go_roundw
        case rel => exact ⟨i + 1, by omega, by go_num, by rw [HNX.out, HST.out]; exact qz, q10, c10⟩
        case measure => simp [intOf]; omega
      · have HST := Lib.hid (HS.out 5 rfl)
        clear HS
        obtain ⟨z, hz⟩ : ∃ z, bits .and .i64 a bv = z := ⟨_, rfl⟩
        have HZ := Lib.hid hz
        have HZW := Lib.hid (show (Lit.int .i64 z).wf = true from hz ▸ bits_wf' _ (.inl rfl) _ _)
        have HST := Lib.hid (HST.out.trans (show zs.set rd (opV ⟨5, rd, ra, rb, rc, nn⟩ a bv cv) = zs.set rd z by rw [← hz]; rfl))
        clear hz
        go_wp2_with (first
          | (refine wpList_run (w := w9) rfl (v := .pointer (some ⟨wr.heap.size, 0, none⟩)) (Held.y_field (S := fun _ => True) (k := 0) (s := 0) rfl rfl Try.underlying50 rfl (by kernel_rfl) rfl _ trivial) ?_)
          | (refine wpList_run (w := w9) rfl (v := .pointer (some ⟨wr.heap.size, 1, none⟩)) (Held.y_field (S := fun _ => True) (k := 1) (s := 0) rfl rfl Try.underlying50 rfl (by kernel_rfl) rfl _ trivial) ?_)
          | (refine wpList_run (w := w9) rfl (v := .pointer (some ⟨wr.heap.size, 5, none⟩)) (Held.y_field (S := fun _ => True) (k := 5) (s := 0) rfl rfl Try.underlying50 rfl (by kernel_rfl) rfl _ trivial) ?_)
          | (refine wpList_run (w := w9) rfl (v := .int .i64 z) (Held.y_int (S := fun _ => True) rfl rfl rfl (Held.run_bitop (by simp) 2 .i64 HZ.out) _ trivial) ?_)
          | (refine wpList_run (w := w9) rfl (v := .pointer (some ⟨w.heap.size, rd, none⟩)) (Held.y_addr (S := fun _ => True) rfl rfl rfl (Held.run_addr_arr (P := Try.prog) 73 2 8 w.heap.size rd .i64 Try.underlying73 (by kernel_rfl) hrd) _ trivial) ?_)
          | (refine wpList_store_elem (w := w9) rfl 2 _ _ rfl w.heap.size rd rfl 73 .i64 _ z rfl qr9 (by rw [HL8.out]; exact hrd) size_i64 HZW.out ?_; intro w10 qz g10 z10))
        have c10 := (HBW.out _ b9).grown g10 (HBW.out _ b9).size (fun r ee => by cases ee; exact Nat.le_refl _)
        have q10 := (HBQ.out _ b9).grown g10 (by intro ee; injection ee with ee; omega)
        go_roundw
        case rel => exact ⟨i + 1, by omega, by go_num, by rw [HNX.out, HST.out]; exact qz, q10, c10⟩
        case measure => simp [intOf]; omega
      · have HST := Lib.hid (HS.out 6 rfl)
        clear HS
        obtain ⟨z, hz⟩ : ∃ z, bits .or .i64 a bv = z := ⟨_, rfl⟩
        have HZ := Lib.hid hz
        have HZW := Lib.hid (show (Lit.int .i64 z).wf = true from hz ▸ bits_wf' _ (.inr (.inl rfl)) _ _)
        have HST := Lib.hid (HST.out.trans (show zs.set rd (opV ⟨6, rd, ra, rb, rc, nn⟩ a bv cv) = zs.set rd z by rw [← hz]; rfl))
        clear hz
        go_wp2_with (first
          | (refine wpList_run (w := w9) rfl (v := .pointer (some ⟨wr.heap.size, 0, none⟩)) (Held.y_field (S := fun _ => True) (k := 0) (s := 0) rfl rfl Try.underlying50 rfl (by kernel_rfl) rfl _ trivial) ?_)
          | (refine wpList_run (w := w9) rfl (v := .pointer (some ⟨wr.heap.size, 1, none⟩)) (Held.y_field (S := fun _ => True) (k := 1) (s := 0) rfl rfl Try.underlying50 rfl (by kernel_rfl) rfl _ trivial) ?_)
          | (refine wpList_run (w := w9) rfl (v := .pointer (some ⟨wr.heap.size, 5, none⟩)) (Held.y_field (S := fun _ => True) (k := 5) (s := 0) rfl rfl Try.underlying50 rfl (by kernel_rfl) rfl _ trivial) ?_)
          | (refine wpList_run (w := w9) rfl (v := .int .i64 z) (Held.y_int (S := fun _ => True) rfl rfl rfl (Held.run_bitop (by simp) 2 .i64 HZ.out) _ trivial) ?_)
          | (refine wpList_run (w := w9) rfl (v := .pointer (some ⟨w.heap.size, rd, none⟩)) (Held.y_addr (S := fun _ => True) rfl rfl rfl (Held.run_addr_arr (P := Try.prog) 73 2 8 w.heap.size rd .i64 Try.underlying73 (by kernel_rfl) hrd) _ trivial) ?_)
          | (refine wpList_store_elem (w := w9) rfl 2 _ _ rfl w.heap.size rd rfl 73 .i64 _ z rfl qr9 (by rw [HL8.out]; exact hrd) size_i64 HZW.out ?_; intro w10 qz g10 z10))
        have c10 := (HBW.out _ b9).grown g10 (HBW.out _ b9).size (fun r ee => by cases ee; exact Nat.le_refl _)
        have q10 := (HBQ.out _ b9).grown g10 (by intro ee; injection ee with ee; omega)
        go_roundw
        case rel => exact ⟨i + 1, by omega, by go_num, by rw [HNX.out, HST.out]; exact qz, q10, c10⟩
        case measure => simp [intOf]; omega
      · have HST := Lib.hid (HS.out 7 rfl)
        clear HS
        obtain ⟨z, hz⟩ : ∃ z, bits .xor .i64 a bv = z := ⟨_, rfl⟩
        have HZ := Lib.hid hz
        have HZW := Lib.hid (show (Lit.int .i64 z).wf = true from hz ▸ bits_wf' _ (.inr (.inr rfl)) _ _)
        have HST := Lib.hid (HST.out.trans (show zs.set rd (opV ⟨7, rd, ra, rb, rc, nn⟩ a bv cv) = zs.set rd z by rw [← hz]; rfl))
        clear hz
        go_wp2_with (first
          | (refine wpList_run (w := w9) rfl (v := .pointer (some ⟨wr.heap.size, 0, none⟩)) (Held.y_field (S := fun _ => True) (k := 0) (s := 0) rfl rfl Try.underlying50 rfl (by kernel_rfl) rfl _ trivial) ?_)
          | (refine wpList_run (w := w9) rfl (v := .pointer (some ⟨wr.heap.size, 1, none⟩)) (Held.y_field (S := fun _ => True) (k := 1) (s := 0) rfl rfl Try.underlying50 rfl (by kernel_rfl) rfl _ trivial) ?_)
          | (refine wpList_run (w := w9) rfl (v := .pointer (some ⟨wr.heap.size, 5, none⟩)) (Held.y_field (S := fun _ => True) (k := 5) (s := 0) rfl rfl Try.underlying50 rfl (by kernel_rfl) rfl _ trivial) ?_)
          | (refine wpList_run (w := w9) rfl (v := .int .i64 z) (Held.y_int (S := fun _ => True) rfl rfl rfl (Held.run_bitop (by simp) 2 .i64 HZ.out) _ trivial) ?_)
          | (refine wpList_run (w := w9) rfl (v := .pointer (some ⟨w.heap.size, rd, none⟩)) (Held.y_addr (S := fun _ => True) rfl rfl rfl (Held.run_addr_arr (P := Try.prog) 73 2 8 w.heap.size rd .i64 Try.underlying73 (by kernel_rfl) hrd) _ trivial) ?_)
          | (refine wpList_store_elem (w := w9) rfl 2 _ _ rfl w.heap.size rd rfl 73 .i64 _ z rfl qr9 (by rw [HL8.out]; exact hrd) size_i64 HZW.out ?_; intro w10 qz g10 z10))
        have c10 := (HBW.out _ b9).grown g10 (HBW.out _ b9).size (fun r ee => by cases ee; exact Nat.le_refl _)
        have q10 := (HBQ.out _ b9).grown g10 (by intro ee; injection ee with ee; omega)
        go_roundw
        case rel => exact ⟨i + 1, by omega, by go_num, by rw [HNX.out, HST.out]; exact qz, q10, c10⟩
        case measure => simp [intOf]; omega
      · have HST := Lib.hid (HS.out 8 rfl)
        clear HS
        obtain ⟨q, hq⟩ : ∃ q, decide (a < bv) = q := ⟨_, rfl⟩
        have HQ := Lib.hid hq
        have HST := Lib.hid (HST.out.trans (show zs.set rd (opV ⟨8, rd, ra, rb, rc, nn⟩ a bv cv) = zs.set rd (oneI q) by rw [← hq]; simp [opV, oneI]))
        have HZW := Lib.hid (show (Lit.int .i64 (oneI q)).wf = true by cases q <;> rfl)
        clear hq
        go_wp2_with (first
          | (refine wpList_run (w := w9) rfl (v := .pointer (some ⟨wr.heap.size, 0, none⟩)) (Held.y_field (S := fun _ => True) (k := 0) (s := 0) rfl rfl Try.underlying50 rfl (by kernel_rfl) rfl _ trivial) ?_)
          | (refine wpList_run (w := w9) rfl (v := .pointer (some ⟨wr.heap.size, 1, none⟩)) (Held.y_field (S := fun _ => True) (k := 1) (s := 0) rfl rfl Try.underlying50 rfl (by kernel_rfl) rfl _ trivial) ?_)
          | (refine wpList_run (w := w9) rfl (v := .pointer (some ⟨wr.heap.size, 5, none⟩)) (Held.y_field (S := fun _ => True) (k := 5) (s := 0) rfl rfl Try.underlying50 rfl (by kernel_rfl) rfl _ trivial) ?_))
        refine wp_region_held (S := fun W => Only (fun g => g = w.heap.size) w9 W) (by kernel_rfl) ?_
        change wpAnyH _ _ _ _ _ _ _ _ w9.drew
        have D9 := (Below.refl w9.heap.size w9).drew
        have c0_0 : Only (fun g => g = w.heap.size) w9 w9.drew := Only.of_below D9
        have qr9 := qr9.below D9 qr9.lt
        have b9 := b9.trans (D9.mono b9.size)
        have hne : ¬ wr.heap.size = w.heap.size := by omega
        refine Held.tk (v := .pointer (some ⟨wr.heap.size, 1, none⟩)) 0 (some 96) rfl (Held.y_field (k := 1) (s := 0) rfl rfl Try.underlying50 rfl (by kernel_rfl) rfl) c0_0 ?_
        simp only [Act.put, Z1, Z2, Z3]
        refine Held.tk (v := .int .i64 (rd : Int)) 1 (some 97) rfl (Held.y_load rfl rfl (by kernel_rfl) (fun X hX => hX.cell hne d1)) c0_0 ?_
        simp only [Act.put, Z1, Z2, Z3]
        refine Held.tk (v := .int .i64 a) 2 (some 98) rfl (Held.y_move rfl rfl) c0_0 ?_
        simp only [Act.put, Z1, Z2, Z3]
        refine Held.tk (v := .int .i64 bv) 3 (some 99) rfl (Held.y_move rfl rfl) c0_0 ?_
        simp only [Act.put, Z1, Z2, Z3]
        refine Held.tk (v := .bool q) 4 (some 100) rfl (Held.y_lss rfl rfl rfl HQ.out) c0_0 ?_
        simp only [Act.put, Z1, Z2, Z3]
        refine Held.one 5 (by kernel_rfl) ?_
        refine Held.op_call 5 (some 101) 51 #[.bool q] rfl rfl rfl rfl (enters_of Try.func51 (by kernel_rfl) rfl) (by simp [Act.eval])
          (rone_i64 q _) ?_
        rintro e w1 ⟨rfl, b1⟩
        have c0_1 := c0_0.trans (Only.of_below b1)
        have qr9 := qr9.below b1 qr9.lt
        have b9 := b9.trans (b1.mono b9.size)
        refine ⟨_, rfl, c0_1, ?_⟩
        simp only [Act.put, Z1, Z2, Z3]
        refine Held.tk (v := .pointer (some ⟨w.heap.size, rd, none⟩)) 6 (some 102) rfl (Held.y_addr rfl rfl rfl (Held.run_addr_arr 73 2 8 w.heap.size rd .i64 Try.underlying73 (by kernel_rfl) hrd)) c0_1 ?_
        simp only [Act.put, Z1, Z2, Z3]
        refine Held.one 7 (by kernel_rfl) ?_
        refine Held.op_store_elem 7 none 2 w.heap.size rd 73 .i64 _ (oneI q) rfl rfl rfl rfl rfl rfl qr9 (by rw [HL8.out]; exact hrd) size_i64 HZW.out ?_
        intro w10 qz g10
        refine ⟨c0_1.trans (Only.of_grown g10 (fun r ee => by cases ee; rfl)), ?_⟩
        simp only [Act.put]
        refine wpAnyH_done (by kernel_rfl) ?_ _
        go_wp2_with fail
        have c10 := (HBW.out _ b9).grown g10 (HBW.out _ b9).size (fun r ee => by cases ee; exact Nat.le_refl _)
        have q10 := (HBQ.out _ b9).grown g10 (by intro ee; injection ee with ee; omega)
        go_roundw
        case rel => exact ⟨i + 1, by omega, by go_num, by rw [HNX.out, HST.out]; exact qz, q10, c10⟩
        case measure => simp [intOf]; omega
      · have HST := Lib.hid (HS.out 9 rfl)
        clear HS
        obtain ⟨q, hq⟩ : ∃ q, decide (a = bv) = q := ⟨_, rfl⟩
        have HQ := Lib.hid hq
        have HST := Lib.hid (HST.out.trans (show zs.set rd (opV ⟨9, rd, ra, rb, rc, nn⟩ a bv cv) = zs.set rd (oneI q) by rw [← hq]; simp [opV, oneI]))
        have HZW := Lib.hid (show (Lit.int .i64 (oneI q)).wf = true by cases q <;> rfl)
        clear hq
        go_wp2_with (first
          | (refine wpList_run (w := w9) rfl (v := .pointer (some ⟨wr.heap.size, 0, none⟩)) (Held.y_field (S := fun _ => True) (k := 0) (s := 0) rfl rfl Try.underlying50 rfl (by kernel_rfl) rfl _ trivial) ?_)
          | (refine wpList_run (w := w9) rfl (v := .pointer (some ⟨wr.heap.size, 1, none⟩)) (Held.y_field (S := fun _ => True) (k := 1) (s := 0) rfl rfl Try.underlying50 rfl (by kernel_rfl) rfl _ trivial) ?_)
          | (refine wpList_run (w := w9) rfl (v := .pointer (some ⟨wr.heap.size, 5, none⟩)) (Held.y_field (S := fun _ => True) (k := 5) (s := 0) rfl rfl Try.underlying50 rfl (by kernel_rfl) rfl _ trivial) ?_))
        refine wp_region_held (S := fun W => Only (fun g => g = w.heap.size) w9 W) (by kernel_rfl) ?_
        change wpAnyH _ _ _ _ _ _ _ _ w9.drew
        have D9 := (Below.refl w9.heap.size w9).drew
        have c0_0 : Only (fun g => g = w.heap.size) w9 w9.drew := Only.of_below D9
        have qr9 := qr9.below D9 qr9.lt
        have b9 := b9.trans (D9.mono b9.size)
        have hne : ¬ wr.heap.size = w.heap.size := by omega
        refine Held.tk (v := .pointer (some ⟨wr.heap.size, 1, none⟩)) 0 (some 105) rfl (Held.y_field (k := 1) (s := 0) rfl rfl Try.underlying50 rfl (by kernel_rfl) rfl) c0_0 ?_
        simp only [Act.put, Z1, Z2, Z3]
        refine Held.tk (v := .int .i64 (rd : Int)) 1 (some 106) rfl (Held.y_load rfl rfl (by kernel_rfl) (fun X hX => hX.cell hne d1)) c0_0 ?_
        simp only [Act.put, Z1, Z2, Z3]
        refine Held.tk (v := .int .i64 a) 2 (some 107) rfl (Held.y_move rfl rfl) c0_0 ?_
        simp only [Act.put, Z1, Z2, Z3]
        refine Held.tk (v := .int .i64 bv) 3 (some 108) rfl (Held.y_move rfl rfl) c0_0 ?_
        simp only [Act.put, Z1, Z2, Z3]
        refine Held.tk (v := .bool q) 4 (some 109) rfl (Held.y_eqI rfl rfl rfl HQ.out) c0_0 ?_
        simp only [Act.put, Z1, Z2, Z3]
        refine Held.one 5 (by kernel_rfl) ?_
        refine Held.op_call 5 (some 110) 51 #[.bool q] rfl rfl rfl rfl (enters_of Try.func51 (by kernel_rfl) rfl) (by simp [Act.eval])
          (rone_i64 q _) ?_
        rintro e w1 ⟨rfl, b1⟩
        have c0_1 := c0_0.trans (Only.of_below b1)
        have qr9 := qr9.below b1 qr9.lt
        have b9 := b9.trans (b1.mono b9.size)
        refine ⟨_, rfl, c0_1, ?_⟩
        simp only [Act.put, Z1, Z2, Z3]
        refine Held.tk (v := .pointer (some ⟨w.heap.size, rd, none⟩)) 6 (some 111) rfl (Held.y_addr rfl rfl rfl (Held.run_addr_arr 73 2 8 w.heap.size rd .i64 Try.underlying73 (by kernel_rfl) hrd)) c0_1 ?_
        simp only [Act.put, Z1, Z2, Z3]
        refine Held.one 7 (by kernel_rfl) ?_
        refine Held.op_store_elem 7 none 2 w.heap.size rd 73 .i64 _ (oneI q) rfl rfl rfl rfl rfl rfl qr9 (by rw [HL8.out]; exact hrd) size_i64 HZW.out ?_
        intro w10 qz g10
        refine ⟨c0_1.trans (Only.of_grown g10 (fun r ee => by cases ee; rfl)), ?_⟩
        simp only [Act.put]
        refine wpAnyH_done (by kernel_rfl) ?_ _
        go_wp2_with fail
        have c10 := (HBW.out _ b9).grown g10 (HBW.out _ b9).size (fun r ee => by cases ee; exact Nat.le_refl _)
        have q10 := (HBQ.out _ b9).grown g10 (by intro ee; injection ee with ee; omega)
        go_roundw
        case rel => exact ⟨i + 1, by omega, by go_num, by rw [HNX.out, HST.out]; exact qz, q10, c10⟩
        case measure => simp [intOf]; omega
      · have HST := Lib.hid (HS.out 10 rfl)
        clear HS
        by_cases h0 : a = 0
        · have HST := Lib.hid (HST.out.trans (show zs.set rd (opV ⟨10, rd, ra, rb, rc, nn⟩ a bv cv) = zs.set rd cv by simp [opV, h0]))
          have HZW := Lib.hid hcv
          go_wp2_with (first
            | (refine wpList_run (w := w9) rfl (v := .pointer (some ⟨wr.heap.size, 0, none⟩)) (Held.y_field (S := fun _ => True) (k := 0) (s := 0) rfl rfl Try.underlying50 rfl (by kernel_rfl) rfl _ trivial) ?_)
            | (refine wpList_run (w := w9) rfl (v := .pointer (some ⟨wr.heap.size, 1, none⟩)) (Held.y_field (S := fun _ => True) (k := 1) (s := 0) rfl rfl Try.underlying50 rfl (by kernel_rfl) rfl _ trivial) ?_)
            | (refine wpList_run (w := w9) rfl (v := .pointer (some ⟨wr.heap.size, 5, none⟩)) (Held.y_field (S := fun _ => True) (k := 5) (s := 0) rfl rfl Try.underlying50 rfl (by kernel_rfl) rfl _ trivial) ?_)
            | (refine wpList_run (w := w9) rfl (v := .pointer (some ⟨w.heap.size, rd, none⟩)) (Held.y_addr (S := fun _ => True) rfl rfl rfl (Held.run_addr_arr (P := Try.prog) 73 2 8 w.heap.size rd .i64 Try.underlying73 (by kernel_rfl) hrd) _ trivial) ?_)
            | (refine wpList_store_elem (w := w9) rfl 2 _ _ rfl w.heap.size rd rfl 73 .i64 _ cv rfl qr9 (by rw [HL8.out]; exact hrd) size_i64 HZW.out ?_; intro w10 qz g10 z10))
          have c10 := (HBW.out _ b9).grown g10 (HBW.out _ b9).size (fun r ee => by cases ee; exact Nat.le_refl _)
          have q10 := (HBQ.out _ b9).grown g10 (by intro ee; injection ee with ee; omega)
          go_roundw
          case rel => exact ⟨i + 1, by omega, by go_num, by rw [HNX.out, HST.out]; exact qz, q10, c10⟩
          case measure => simp [intOf]; omega
        · have HST := Lib.hid (HST.out.trans (show zs.set rd (opV ⟨10, rd, ra, rb, rc, nn⟩ a bv cv) = zs.set rd bv by simp [opV, h0]))
          have HZW := Lib.hid hbv
          go_wp2_with (first
            | (refine wpList_run (w := w9) rfl (v := .pointer (some ⟨wr.heap.size, 0, none⟩)) (Held.y_field (S := fun _ => True) (k := 0) (s := 0) rfl rfl Try.underlying50 rfl (by kernel_rfl) rfl _ trivial) ?_)
            | (refine wpList_run (w := w9) rfl (v := .pointer (some ⟨wr.heap.size, 1, none⟩)) (Held.y_field (S := fun _ => True) (k := 1) (s := 0) rfl rfl Try.underlying50 rfl (by kernel_rfl) rfl _ trivial) ?_)
            | (refine wpList_run (w := w9) rfl (v := .pointer (some ⟨wr.heap.size, 5, none⟩)) (Held.y_field (S := fun _ => True) (k := 5) (s := 0) rfl rfl Try.underlying50 rfl (by kernel_rfl) rfl _ trivial) ?_)
            | (refine wpList_run (w := w9) rfl (v := .pointer (some ⟨w.heap.size, rd, none⟩)) (Held.y_addr (S := fun _ => True) rfl rfl rfl (Held.run_addr_arr (P := Try.prog) 73 2 8 w.heap.size rd .i64 Try.underlying73 (by kernel_rfl) hrd) _ trivial) ?_)
            | (refine wpList_store_elem (w := w9) rfl 2 _ _ rfl w.heap.size rd rfl 73 .i64 _ bv rfl qr9 (by rw [HL8.out]; exact hrd) size_i64 HZW.out ?_; intro w10 qz g10 z10))
          have c10 := (HBW.out _ b9).grown g10 (HBW.out _ b9).size (fun r ee => by cases ee; exact Nat.le_refl _)
          have q10 := (HBQ.out _ b9).grown g10 (by intro ee; injection ee with ee; omega)
          go_roundw
          case rel => exact ⟨i + 1, by omega, by go_num, by rw [HNX.out, HST.out]; exact qz, q10, c10⟩
          case measure => simp [intOf]; omega
      · have HST := Lib.hid (HS.out 11 rfl)
        clear HS
        have HB6 := low6s bv hbv
        have hlt6 := (show (bv % 64).toNat ≤ 63 by omega)
        generalize hS : (bv % 64).toNat = sh at HB6 hlt6
        have HST := Lib.hid (HST.out.trans (show zs.set rd (opV ⟨11, rd, ra, rb, rc, nn⟩ a bv cv) = zs.set rd (a / 2 ^ sh) by rw [← hS]; rfl))
        have HZW := Lib.hid (show (Lit.int .i64 (a / 2 ^ sh)).wf = true by have := opV_wf ⟨11, rd, ra, rb, rc, nn⟩ (a := a) (b := bv) (c := cv) hnn hav hbv hcv; rw [← hS]; exact this)
        clear hS
        have hwu : IntKind.u64.wrap (sh : Int) = (sh : Int) := by rw [IntKind.wrap_u64]; omega
        go_wp2_with (first
          | (refine wpList_run (w := w9) rfl (v := .pointer (some ⟨wr.heap.size, 0, none⟩)) (Held.y_field (S := fun _ => True) (k := 0) (s := 0) rfl rfl Try.underlying50 rfl (by kernel_rfl) rfl _ trivial) ?_)
          | (refine wpList_run (w := w9) rfl (v := .pointer (some ⟨wr.heap.size, 1, none⟩)) (Held.y_field (S := fun _ => True) (k := 1) (s := 0) rfl rfl Try.underlying50 rfl (by kernel_rfl) rfl _ trivial) ?_)
          | (refine wpList_run (w := w9) rfl (v := .pointer (some ⟨wr.heap.size, 5, none⟩)) (Held.y_field (S := fun _ => True) (k := 5) (s := 0) rfl rfl Try.underlying50 rfl (by kernel_rfl) rfl _ trivial) ?_)
          | (refine wpList_shr (w := w9) rfl _ _ _ _ rfl .i64 .u64 a (a / 2 ^ sh) sh rfl rfl (by simp [IntKind.bits]; omega) rfl ?_)
          | (refine wpList_run (w := w9) rfl (v := .pointer (some ⟨w.heap.size, rd, none⟩)) (Held.y_addr (S := fun _ => True) rfl rfl rfl (Held.run_addr_arr (P := Try.prog) 73 2 8 w.heap.size rd .i64 Try.underlying73 (by kernel_rfl) hrd) _ trivial) ?_)
          | (refine wpList_store_elem (w := w9) rfl 2 _ _ rfl w.heap.size rd rfl 73 .i64 _ (a / 2 ^ sh) rfl qr9 (by rw [HL8.out]; exact hrd) size_i64 HZW.out ?_; intro w10 qz g10 z10))
        have c10 := (HBW.out _ b9).grown g10 (HBW.out _ b9).size (fun r ee => by cases ee; exact Nat.le_refl _)
        have q10 := (HBQ.out _ b9).grown g10 (by intro ee; injection ee with ee; omega)
        go_roundw
        case rel => exact ⟨i + 1, by omega, by go_num, by rw [HNX.out, HST.out]; exact qz, q10, c10⟩
        case measure => simp [intOf]; omega
    · have hin : i = n := by omega
      subst hin
      rw [List.take_of_length_le (by rw [HL.out]; exact Nat.le_refl _)] at qr
      have H8 := Lib.hid (HRL.out xs)
      obtain ⟨zs, hzs⟩ : ∃ zs, runR xs rs0 = zs := ⟨_, rfl⟩
      rw [hzs] at qr H8
      have HZS := Lib.hid hzs
      clear hzs
      go_wp2_with (first
        | (refine wpList_load_Row (w := wr) rfl 73 _ rfl w.heap.size rfl 73 .i64 _ qr 8 2 Try.underlying73 info_regs H8.out ?_)
        | (refine wpList_store_RowTo (w := wr) rfl 73 _ _ rfl u1.heap.size rfl 73 .i64 _ zs rfl q2 8 info_regs H8.out (by simp) qr.1 ?_; intro w8 q8 g8 z8))
      have q8' : Blk w8 u1.heap.size 73 (arr .i64 zs) := q8.2
      exact bodyPost_ret (results_blk_tmp rfl _ _ u1.heap.size 8 _ _ (.slice none 0 0) rfl rfl q8' _ Try.underlying73 rfl info_regs (by rw [arr_size]; exact H8.out)) rfl ⟨by rw [HZS.out], bw.grown g8 bw.size (fun r ee => by cases ee; omega)⟩
end Go.Proofs.Ytkiempdpfmolfaa.Cn
namespace Go.Proofs.Ytkiempdpfmolfaa.Cn
open Go.RowKit Go.Shelf Go.Proofs.Ytkiempdpfmolfaa Mem Held Ct Rc Rs Sl Vm
attribute [local irreducible] wpList wpListIn Calls
set_option maxRecDepth 100000 in
set_option maxHeartbeats 8000000 in
theorem rfold_any (B : Nat) (K : Int) (A1 A2 A3 : Option Addr) (n1 c1 n2 c2 n3 c3 : Nat) (m f fi : List O) (x y : Int) (w : World) (hx : (Lit.int .i64 x).wf = true) (hy : (Lit.int .i64 y).wf = true) (h1 : Lst kO w B A1 n1 m) (h2 : Lst kO w B A2 n2 f) (h3 : Lst kO w B A3 n3 fi) (hB : B ≤ w.heap.size) (l1 : n1 ≤ 1048576) (l2 : n2 ≤ 1048576) (l3 : n3 ≤ 1048576) :
    Calls Try.prog 27 #[.agg #[.int .i64 K, .slice A1 n1 c1, .slice A2 n2 c2, .slice A3 n3 c3], .int .i64 x, .int .i64 y] w fun e w' => e = .returned (.int .i64 (foldV K m f fi x y)) ∧ Below w.heap.size w w' := by
  go_enter Try.func27, Try.ntmps27
  by_cases hC : checkB K m f fi = true
  · obtain ⟨_, _, hmm, hmf, hme⟩ := checkB_says hC
    have HC := Lib.hid (show checkE K m f fi = 0 by rw [checkE, if_pos hC])
    have HV := Lib.hid (show foldV K m f fi x y = reg (runR f [x, y, 0, 0, 0, 0, 0, 0]) 0 by rw [foldV, if_pos hC])
    have HMP := Lib.hid (show ∀ o ∈ f, mayO o 0 = true from fun o ho => by
      have hh := hmf
      unfold mayP at hh
      rw [Bool.and_eq_true] at hh
      exact List.all_eq_true.1 hh.2 o ho)
    clear hmm hmf hme hC
    go_wp2_with (first
      | (refine wpList_box_blk (w := w) rfl 24 _ rfl #[.int .i64 K, .slice A1 n1 c1, .slice A2 n2 c2, .slice A3 n3 c3] rfl ?_; intro w1 q1 g1 z1; have b1 : Below w.heap.size w w1 := (Below.refl _ w).grown g1 (Nat.le_refl _) (by simp); have L1 := h1.below (b1.mono hB); have L2 := h2.below (b1.mono hB); have L3 := h3.below (b1.mono hB); clear h1 h2 h3 g1 z1)
      | (refine wpList_load_blk (w := w1) rfl 24 _ rfl w.heap.size 4 rfl 24 _ q1 _ Try.underlying24 rfl info_prog rfl ?_))
    refine (rcheck_any B K A1 A2 A3 n1 c1 n2 c2 n3 c3 m f fi w1 L1 L2 L3 (Nat.le_trans hB b1.size) (by omega) (by omega) (by omega)).mono ?_
    rintro e w2 ⟨rfl, b2⟩
    rw [HC.out]
    have q2 := q1.after b2
    have LP := L2.below (b2.mono (Nat.le_trans hB b1.size))
    have b2 := b1.trans (b2.mono b1.size)
    clear q1 b1 L1 L2 L3
    have hcP := q2.cell (i := 2) rfl
    have HWF : Fit [x, y, 0, 0, 0, 0, 0, 0] := Sp.fit_of hx hy
    go_wp2_with (first
      | (refine wpList_run (w := w2) rfl (v := .pointer (some ⟨w.heap.size, 2, none⟩)) (Held.y_field (S := fun _ => True) (k := 2) (s := 0) rfl rfl Try.underlying24 rfl (by kernel_rfl) rfl _ trivial) ?_)
      | (refine wpList_build_blk rfl 73 _ rfl (arr .i64 [x, y, 0, 0, 0, 0, 0, 0]) (by kernel_rfl) ?_))
    refine (rrun_any B A2 n2 c2 f [x, y, 0, 0, 0, 0, 0, 0] w2 LP (Nat.le_trans hB b2.size) rfl HWF HMP.out l2).mono ?_
    rintro e w3 ⟨rfl, b3⟩
    have b3 := b2.trans (b3.mono b2.size)
    have hrl := Lib.hid (show (runR f [x, y, 0, 0, 0, 0, 0, 0]).length = 8 from (runR_length _ _).trans rfl)
    have hrf : Fit (runR f [x, y, 0, 0, 0, 0, 0, 0]) := Fit.run HWF LP.2.1
    generalize runR f [x, y, 0, 0, 0, 0, 0, 0] = zs at hrl hrf HV ⊢
    go_wp2_with (first
      | (refine wpList_alloc_Row (w := w3) rfl 73 rfl .i64 8 zero_regs ?_; intro w4 r4 g4 z4)
      | (refine wpList_store_RowTo (w := w4) rfl 73 _ _ rfl w3.heap.size rfl 73 .i64 _ zs rfl r4 8 info_regs hrl.out (by simp) hrf ?_; intro w5 r5 g5 z5; have hc5 := r5.cell (i := 0) (by rw [hrl.out]; omega))
      | (refine wpList_run (w := w5) rfl (v := .pointer (some ⟨w3.heap.size, 0, none⟩)) (Held.y_addr (S := fun _ => True) rfl rfl rfl (Held.run_addr_arr (P := Try.prog) 73 2 8 w3.heap.size 0 .i64 Try.underlying73 (by kernel_rfl) (by omega)) _ trivial) ?_))
    go_ret
    exact ⟨Mem.ret_int (by rw [HV.out]; rfl), (b3.grown g4 b3.size (by simp)).grown g5 (by have := g4.size; have := b3.size; omega) (fun r ee => by cases ee; exact b3.size)⟩
  · have HC := Lib.hid (show checkE K m f fi = 8 by rw [checkE, if_neg hC])
    have HV := Lib.hid (show foldV K m f fi x y = 0 by rw [foldV, if_neg hC])
    rw [HV.out]
    clear HV hC
    go_wp2_with (first
      | (refine wpList_box_blk (w := w) rfl 24 _ rfl #[.int .i64 K, .slice A1 n1 c1, .slice A2 n2 c2, .slice A3 n3 c3] rfl ?_; intro w1 q1 g1 z1; have b1 : Below w.heap.size w w1 := (Below.refl _ w).grown g1 (Nat.le_refl _) (by simp); have L1 := h1.below (b1.mono hB); have L2 := h2.below (b1.mono hB); have L3 := h3.below (b1.mono hB); clear h1 h2 h3 g1 z1)
      | (refine wpList_load_blk (w := w1) rfl 24 _ rfl w.heap.size 4 rfl 24 _ q1 _ Try.underlying24 rfl info_prog rfl ?_))
    refine (rcheck_any B K A1 A2 A3 n1 c1 n2 c2 n3 c3 m f fi w1 L1 L2 L3 (Nat.le_trans hB b1.size) (by omega) (by omega) (by omega)).mono ?_
    rintro e w2 ⟨rfl, b2⟩
    rw [HC.out]
    have b2 := b1.trans (b2.mono b1.size)
    clear q1 b1 L1 L2 L3
    go_wp2_with fail
    go_ret
    exact ⟨rfl, b2⟩
set_option maxRecDepth 100000 in
set_option maxHeartbeats 8000000 in
theorem rfinish_any (B : Nat) (K : Int) (A1 A2 A3 : Option Addr) (n1 c1 n2 c2 n3 c3 : Nat) (m f fi : List O) (x y : Int) (w : World) (hx : (Lit.int .i64 x).wf = true) (hy : (Lit.int .i64 y).wf = true) (h1 : Lst kO w B A1 n1 m) (h2 : Lst kO w B A2 n2 f) (h3 : Lst kO w B A3 n3 fi) (hB : B ≤ w.heap.size) (l1 : n1 ≤ 1048576) (l2 : n2 ≤ 1048576) (l3 : n3 ≤ 1048576) :
    Calls Try.prog 28 #[.agg #[.int .i64 K, .slice A1 n1 c1, .slice A2 n2 c2, .slice A3 n3 c3], .int .i64 x, .int .i64 y] w fun e w' => e = .returned (.int .i64 (finishV K m f fi x y)) ∧ Below w.heap.size w w' := by
  go_enter Try.func28, Try.ntmps28
  by_cases hC : checkB K m f fi = true
  · obtain ⟨_, _, hmm, hmf, hme⟩ := checkB_says hC
    have HC := Lib.hid (show checkE K m f fi = 0 by rw [checkE, if_pos hC])
    have HV := Lib.hid (show finishV K m f fi x y = reg (runR fi [y, x, 0, 0, 0, 0, 0, 0]) 0 by rw [finishV, if_pos hC])
    have HMP := Lib.hid (show ∀ o ∈ fi, mayO o 0 = true from fun o ho => by
      have hh := hme
      unfold mayP at hh
      rw [Bool.and_eq_true] at hh
      exact List.all_eq_true.1 hh.2 o ho)
    clear hmm hmf hme hC
    go_wp2_with (first
      | (refine wpList_box_blk (w := w) rfl 24 _ rfl #[.int .i64 K, .slice A1 n1 c1, .slice A2 n2 c2, .slice A3 n3 c3] rfl ?_; intro w1 q1 g1 z1; have b1 : Below w.heap.size w w1 := (Below.refl _ w).grown g1 (Nat.le_refl _) (by simp); have L1 := h1.below (b1.mono hB); have L2 := h2.below (b1.mono hB); have L3 := h3.below (b1.mono hB); clear h1 h2 h3 g1 z1)
      | (refine wpList_load_blk (w := w1) rfl 24 _ rfl w.heap.size 4 rfl 24 _ q1 _ Try.underlying24 rfl info_prog rfl ?_))
    refine (rcheck_any B K A1 A2 A3 n1 c1 n2 c2 n3 c3 m f fi w1 L1 L2 L3 (Nat.le_trans hB b1.size) (by omega) (by omega) (by omega)).mono ?_
    rintro e w2 ⟨rfl, b2⟩
    rw [HC.out]
    have q2 := q1.after b2
    have LP := L3.below (b2.mono (Nat.le_trans hB b1.size))
    have b2 := b1.trans (b2.mono b1.size)
    clear q1 b1 L1 L2 L3
    have hcP := q2.cell (i := 3) rfl
    have HWF : Fit [y, x, 0, 0, 0, 0, 0, 0] := Sp.fit_of hy hx
    go_wp2_with (first
      | (refine wpList_run (w := w2) rfl (v := .pointer (some ⟨w.heap.size, 3, none⟩)) (Held.y_field (S := fun _ => True) (k := 3) (s := 0) rfl rfl Try.underlying24 rfl (by kernel_rfl) rfl _ trivial) ?_)
      | (refine wpList_build_blk rfl 73 _ rfl (arr .i64 [y, x, 0, 0, 0, 0, 0, 0]) (by kernel_rfl) ?_))
    refine (rrun_any B A3 n3 c3 fi [y, x, 0, 0, 0, 0, 0, 0] w2 LP (Nat.le_trans hB b2.size) rfl HWF HMP.out l3).mono ?_
    rintro e w3 ⟨rfl, b3⟩
    have b3 := b2.trans (b3.mono b2.size)
    have hrl := Lib.hid (show (runR fi [y, x, 0, 0, 0, 0, 0, 0]).length = 8 from (runR_length _ _).trans rfl)
    have hrf : Fit (runR fi [y, x, 0, 0, 0, 0, 0, 0]) := Fit.run HWF LP.2.1
    generalize runR fi [y, x, 0, 0, 0, 0, 0, 0] = zs at hrl hrf HV ⊢
    go_wp2_with (first
      | (refine wpList_alloc_Row (w := w3) rfl 73 rfl .i64 8 zero_regs ?_; intro w4 r4 g4 z4)
      | (refine wpList_store_RowTo (w := w4) rfl 73 _ _ rfl w3.heap.size rfl 73 .i64 _ zs rfl r4 8 info_regs hrl.out (by simp) hrf ?_; intro w5 r5 g5 z5; have hc5 := r5.cell (i := 0) (by rw [hrl.out]; omega))
      | (refine wpList_run (w := w5) rfl (v := .pointer (some ⟨w3.heap.size, 0, none⟩)) (Held.y_addr (S := fun _ => True) rfl rfl rfl (Held.run_addr_arr (P := Try.prog) 73 2 8 w3.heap.size 0 .i64 Try.underlying73 (by kernel_rfl) (by omega)) _ trivial) ?_))
    go_ret
    exact ⟨Mem.ret_int (by rw [HV.out]; rfl), (b3.grown g4 b3.size (by simp)).grown g5 (by have := g4.size; have := b3.size; omega) (fun r ee => by cases ee; exact b3.size)⟩
  · have HC := Lib.hid (show checkE K m f fi = 8 by rw [checkE, if_neg hC])
    have HV := Lib.hid (show finishV K m f fi x y = 0 by rw [finishV, if_neg hC])
    rw [HV.out]
    clear HV hC
    go_wp2_with (first
      | (refine wpList_box_blk (w := w) rfl 24 _ rfl #[.int .i64 K, .slice A1 n1 c1, .slice A2 n2 c2, .slice A3 n3 c3] rfl ?_; intro w1 q1 g1 z1; have b1 : Below w.heap.size w w1 := (Below.refl _ w).grown g1 (Nat.le_refl _) (by simp); have L1 := h1.below (b1.mono hB); have L2 := h2.below (b1.mono hB); have L3 := h3.below (b1.mono hB); clear h1 h2 h3 g1 z1)
      | (refine wpList_load_blk (w := w1) rfl 24 _ rfl w.heap.size 4 rfl 24 _ q1 _ Try.underlying24 rfl info_prog rfl ?_))
    refine (rcheck_any B K A1 A2 A3 n1 c1 n2 c2 n3 c3 m f fi w1 L1 L2 L3 (Nat.le_trans hB b1.size) (by omega) (by omega) (by omega)).mono ?_
    rintro e w2 ⟨rfl, b2⟩
    rw [HC.out]
    have b2 := b1.trans (b2.mono b1.size)
    clear q1 b1 L1 L2 L3
    go_wp2_with fail
    go_ret
    exact ⟨rfl, b2⟩
end Go.Proofs.Ytkiempdpfmolfaa.Cn
