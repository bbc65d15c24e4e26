/-
  A place's numbers, and a nonce, of package keys, by their contracts; what a place's fields are to a region.
  The functions below, Journal, Job, Sender, Place and Aad of package keys by their contracts.
  The function Aad of package keys by its contract.
  A number's eight bytes, numbers' bytes, a nonce and what goes beside, by the document's own, by their contracts.
  A nonce by the document's own, by its contract.
  []byte("..") of a text that the program's text says: no program here.
-/
import Derived.Test.YtjelacblnjbfgaaGreatDoorB19
import Derived.Test.YtjelacblnjbfgaaGreatDoorB8
import Derived.Test.YtjelacblnjbfgaaGreatDoorB6
import Derived.Lib.AtoiErrMem
import Derived.Test.YtjelacblnjbfgaaGreatDoorB1
import Derived.Lib.SlBytesConst
import Derived.Great.BuildSlice
import Derived.Laws.IdiomStrings
set_option linter.unusedVariables false
namespace Go.Proofs.YtjelacblnjbfgaaGreatDoor.Ky
open Go.RowKit Go.Shelf Go.Proofs.YtjelacblnjbfgaaGreatDoor Mem Help Go.Proofs.YtjelacblnjbfgaaGreatDoor.Sum Po Go.Proofs.YtjelacblnjbfgaaGreatDoor.Range
attribute [local irreducible] wpList wpListIn Calls
def u64 (x : Int) : Int := x % 18446744073709551616
theorem u64_eq (x : Int) : IntKind.u64.wrap x = u64 x := by rw [IntKind.wrap_u64]; rfl
theorem u64_wf (x : Int) : (Lit.int .u64 (u64 x)).wf = true := wf_64 (by unfold u64; omega)
theorem digits_congr : ∀ (k : Nat) {x y : Int}, x % 256 ^ k = y % 256 ^ k → digits x k = digits y k
  | 0, _, _, _ => rfl
  | k + 1, x, y, h => by
    have hN : (0 : Int) < 256 ^ k := Int.pow_pos (by omega)
    rw [Int.pow_succ, Int.mul_comm (256 ^ k) 256] at h
    have h1 : ∀ z : Int, z % (256 * 256 ^ k) % 256 = z % 256 := fun z => Int.emod_emod_of_dvd z ⟨_, rfl⟩
    have h2 : ∀ z : Int, z % (256 * 256 ^ k) / 256 = z / 256 % 256 ^ k := fun z => by
      generalize (256 : Int) ^ k = N at hN ⊢
      have e1 := Int.mul_ediv_add_emod (z / 256) N
      have e2 := Int.emod_nonneg (z / 256) (show N ≠ 0 by omega)
      have e3 := Int.emod_lt_of_pos (z / 256) hN
      have e4 : z = (z % 256 + 256 * (z / 256 % N)) + 256 * N * (z / 256 / N) := by
        rw [Int.mul_assoc]
        omega
      have e5 : z % (256 * N) = z % 256 + 256 * (z / 256 % N) := by
        conv => lhs; rw [e4]
        rw [Int.add_mul_emod_self_left]
        exact Int.emod_eq_of_lt (by omega) (by omega)
      rw [e5]
      omega
    have g1 : x % 256 = y % 256 := by rw [← h1 x, ← h1 y, h]
    have g2 : x / 256 % 256 ^ k = y / 256 % 256 ^ k := by rw [← h2 x, ← h2 y, h]
    rw [digits, digits, g1, digits_congr k g2]
theorem digits_take : ∀ (k n : Nat) (x : Int), k ≤ n → (digits x n).take k = digits x k
  | 0, n, x, _ => by simp [digits]
  | k + 1, 0, x, h => by omega
  | k + 1, n + 1, x, h => by rw [digits, List.take_succ_cons, digits_take k n _ (by omega), digits]
theorem nonce_take (a i : Int) : (eights [a, u64 i]).take 12 = nonce a i := by
  have e : eights [a, u64 i] = digits a 8 ++ digits (u64 i) 8 := by simp [eights]
  rw [e, List.take_append, digits_length, List.take_of_length_le (by rw [digits_length]; omega), digits_take 4 8 _ (by omega)]
  unfold nonce
  rw [digits_congr 4 (show u64 i % 256 ^ 4 = i % 256 ^ 4 by unfold u64; omega)]
theorem info_w64 : (Tryz.prog.info? 23).map (fun i => (i.zero, i.size, i.bytes)) = some (some (.int .u64 0), 1, 8) := by kernel_rfl
theorem zero_12 : (Tryz.prog.info? 45).bind (·.zero) = some (.agg (arr .u8 (List.replicate 12 0))) := by kernel_rfl
theorem info_12 : (Tryz.prog.info? 45).map (·.size) = some 12 := by kernel_rfl
theorem size_u8 : (Tryz.prog.info? 5).map (·.size) = some 1 := by kernel_rfl
section
variable {S : World → Prop} {ρ : Operand → Value} {o : Oper}
theorem y_place {x : Operand} {b j : Nat} (hj : j < 5) (ho : o.op = .fieldAddr 25 x j) (hx : ρ x = .pointer (some ⟨b, 0, none⟩)) : ∀ w, S w → (execOp ρ o).run Tryz.prog w = .ok (.value (.pointer (some ⟨b, j, none⟩))) w := fun w _ => by
  match j, hj with
  | 0, _ => simp [execOp, ho, hx, Instr.fieldAt, Instr.sureAddr, run_underlying Tryz.underlying25, fieldPlace, addr_add]
  | 1, _ => simp [execOp, ho, hx, Instr.fieldAt, Instr.sureAddr, run_underlying Tryz.underlying25, fieldPlace, addr_add]
  | 2, _ => simp [execOp, ho, hx, Instr.fieldAt, Instr.sureAddr, run_underlying Tryz.underlying25, fieldPlace, addr_add]
  | 3, _ => simp [execOp, ho, hx, Instr.fieldAt, Instr.sureAddr, run_underlying Tryz.underlying25, fieldPlace, addr_add]
  | 4, _ => simp [execOp, ho, hx, Instr.fieldAt, Instr.sureAddr, run_underlying Tryz.underlying25, fieldPlace, addr_add]
theorem y_load_place {x : Operand} {b : Nat} {cs : Array Value} (ho : o.op = .load 25 x) (hx : ρ x = .pointer (some ⟨b, 0, none⟩)) (hs : cs.size = 5) (hc : ∀ w, S w → w.heap[b]? = some (.cells cs 25 (0, 0))) : ∀ w, S w → (execOp ρ o).run Tryz.prog w = .ok (.value (.agg cs)) w := fun w hw => by
  simp only [execOp, ho, hx, Instr.loadAt, Instr.sureAddr, Sem.run_bind, Sem.run_pure, Result.andThen_ok, run_loadVar_row w b 25 25 cs (0, 0) _ (hc w hw) Tryz.underlying25 rfl (by rw [hs]; kernel_rfl)]
end
theorem spot_any (ph r a t i : Int) (w : World) :
    Calls Tryz.prog 37 #[.agg #[.int .i64 ph, .int .i64 r, .int .i64 a, .int .u64 t, .int .i64 i]] w fun e w' => ∃ bx g : Nat, e = .returned (.func (.func 62) #[] #[.pointer (some ⟨bx, 0, none⟩)]) ∧ w'.cell? ⟨bx, 0, none⟩ = some (.slice (some ⟨g, 0, none⟩) 3 3) ∧
      Row w' g 23 .u64 [u64 ph, u64 r, u64 a] ∧ w.heap.size ≤ g ∧ w.heap.size ≤ bx ∧ Below w.heap.size w w' := by
  have h1 := u64_eq ph
  have h2 := u64_eq r
  have h3 := u64_eq a
  go_enter Tryz.func37, Tryz.ntmps37
  go_wp2_with fail
  refine (order_any _ 3 3 _).mono ?_
  rintro e w3 ⟨rfl, hw3⟩
  have b3 : Below w.heap.size w w3 := by rw [hw3]; exact (((Below.refl _ w).alloc (Nat.le_refl _) _).alloc (by simp) _).alloc (by simp; omega) _
  have rw3 : Row w3 (w.heap.size + 1) 23 .u64 [u64 ph, u64 r, u64 a] := by
    rw [hw3]
    have q := (Row.new (w.alloc (.cells #[.int .i64 ph, .int .i64 r, .int .i64 a, .int .u64 t, .int .i64 i] 25)) 23 (k := .u64) (zs := [u64 ph, u64 r, u64 a]) (by simp [u64_wf])).alloc (.cells #[.slice (some ⟨w.heap.size + 1, 0, none⟩) 3 3] 96)
    simpa [arr, h1, h2, h3] using q
  have c3 : w3.cell? ⟨w.heap.size + 2, 0, none⟩ = some (.slice (some ⟨w.heap.size + 1, 0, none⟩) 3 3) := by
    rw [hw3, World.cell?_alloc_at _ _ _ _ (by simp)]
    rfl
  clear hw3
  go_wp2_with fail
  go_ret
  exact ⟨_, w.heap.size + 1, rfl, by simpa using c3, rw3, by omega, by omega, b3⟩
set_option maxHeartbeats 1000000 in
theorem nonce_any (a i : Int) (ha : (Lit.int .u64 a).wf = true) (w : World) :
    Calls Tryz.prog 16 #[.int .u64 a, .int .i64 i] w fun e w' => e = .returned (.agg (arr .u8 (nonce a i))) ∧ Below w.heap.size w w' := by
  have h1 := u64_eq i
  go_enter Tryz.func16, Tryz.ntmps16
  go_wp2_with (first
    | (refine wpList_alloc_Row rfl 45 rfl .u8 12 zero_12 ?_; intro w1 r1 g1 z1)
    | (refine Held.wpList_build_row (w := w1) rfl 96 23 2 _ rfl .u64 8 [a, u64 i] Tryz.underlying96 info_w64 (by simp_all [Act.eval]) rfl (by omega) (by omega) (by intro z hz; rcases List.mem_cons.1 hz with rfl | hz; exact ha; rw [List.mem_singleton.1 hz]; exact u64_wf i) ?_; intro w2 r2 g2 z2))
  refine (order_any _ 2 2 w2).mono ?_
  rintro e w3 ⟨rfl, hw3⟩
  have e1 := g1.size
  have e2 := g2.size
  have r3 : Row w3 w1.heap.size 23 .u64 [a, u64 i] := by rw [hw3]; exact r2.alloc _
  have c3 : w3.cell? ⟨w2.heap.size, 0, none⟩ = some (.slice (some ⟨w1.heap.size, 0, none⟩) 2 2) := by rw [hw3, World.cell?_alloc_at _ _ _ _ rfl]; rfl
  have n3 : Row w3 w.heap.size 45 .u8 (List.replicate 12 0) := by rw [hw3]; exact (r1.grown g2 (by simp)).alloc _
  have b3 : Below w.heap.size w w3 := by rw [hw3]; exact (((Below.refl _ w).grown g1 (Nat.le_refl _) (by simp)).grown g2 (by omega) (by simp)).alloc (by omega) _
  clear hw3 r1 r2 g1 g2 z1 z2
  go_wp2_with fail
  refine (laid_any w3.heap.size none 0 0 [] w2.heap.size (some ⟨w1.heap.size, 0, none⟩) 2 2 [a, u64 i] w3 (OwnM.nil _ _ _ _) (Nat.le_refl _) (by simp) c3 (by simp [Value.ownBlock]) (IntsN.row r3 (fun e => by cases e)) (by omega)).mono ?_
  rintro e w4 ⟨A', n', c', rfl, o4, b4⟩
  rw [List.nil_append] at o4
  obtain ⟨hn, hc, hm⟩ := o4.caps
  have hn16 : n' = 16 := by rw [← hn, eights_length]; rfl
  obtain ⟨g, rfl, hg, hr⟩ := o4.head (by omega)
  have n4 := n3.below b4 n3.lt
  have c4 := b3.trans (b4.mono b3.size)
  have hsl : ∀ W, (Instr.sliceAt 27 (.slice (some ⟨g, 0, none⟩) n' c') none (some (.int .i64 12)) none).run Tryz.prog W = .ok (.slice (some ⟨g, 0, none⟩) 12 c') W := fun W => run_front (P := Tryz.prog) (n := n') (cap := c') (h := 12) Tryz.underlying27 size_u8 (Flat.head g 0 c') (by omega) W
  have hr12 : w4.rangeAt g 0 ((nonce a i).map (Value.int .u8)) := fun j v hv => by
    have hj : j < 12 := by have := (List.getElem?_eq_some_iff.1 hv).1; simpa [nonce_length] using this
    refine hr j v ?_
    rw [← nonce_take, List.getElem?_map, List.getElem?_take, if_pos hj] at hv
    rw [List.getElem?_map]
    exact hv
  have HN := Lib.hid (nonce_length a i)
  have HB := Lib.hid (bs_wf (nonce_bytes a i))
  clear hr hn hc hm hn16 o4 b4 c3 r3 n3 b3 e1 e2
  go_wp2_with (first
    | (refine wpList_arrayAt rfl 45 _ rfl _ 12 c' 12 5 rfl Tryz.underlying45 (by omega) ?_)
    | (refine wpList_load_mid rfl 45 _ rfl g 0 rfl ((nonce a i).map (Value.int .u8)) _ hr12 Tryz.underlying45 rfl (by rw [info_12, List.length_map, HN.out]) ?_)
    | (refine wpList_store_RowTo (w := w4) rfl 45 _ _ rfl w.heap.size rfl 45 .u8 _ (nonce a i) rfl n4 12 info_12 HN.out (by simp) HB.out ?_; intro w5 r5 g5 z5))
  have b5 : Below w.heap.size w w5 := c4.grown g5 c4.size (fun r e => by cases e; exact Nat.le_refl _)
  exact bodyPost_ret (results_Row rfl _ _ w.heap.size _ _ _ rfl r5 12 5 Tryz.underlying45 info_12 HN.out) rfl ⟨rfl, b5⟩
end Go.Proofs.YtjelacblnjbfgaaGreatDoor.Ky
namespace Go.Proofs.YtjelacblnjbfgaaGreatDoor.Ky
open Go.RowKit Go.Shelf Go.Proofs.YtjelacblnjbfgaaGreatDoor Mem Help Go.Proofs.YtjelacblnjbfgaaGreatDoor.Sum Sha Mac Po Go.Proofs.YtjelacblnjbfgaaGreatDoor.Range Hkdf
attribute [local irreducible] wpList wpListIn Calls
section
variable {P : Program} {ops : Array Oper} {Q : Exit → Act → World → Prop}
theorem op_text (i : Nat) (d : Option Tmp) {o : Oper} {a : Act} {w : World} {K : Act → World → Prop} (src dst e : TypeId) {x : Operand} (s : ByteArray) (zs : List Int) (hi : ops[i]? = some o) (hd : o.dst = d) (hw : Region.wanted o (yielded ops a.tmps) = true)
    (ho : o.op = .convert src dst x) (hx : a.eval x = .string s) {u : TypeDesc} (hs : P.underlying src = some u) (ht : P.underlying dst = some (.slice e)) (he : P.underlying e = some (.int .u8)) (hz : s.data.toList.map (fun b => (b.toNat : Int)) = zs) (hm : s.size ≤ 1048576)
    (h : ∀ p c' w', OwnM w' w.heap.size e .u8 (.slice (some ⟨p, 0, none⟩) s.size c') zs → Below w.heap.size w w' → Hid (w.heap.size ≤ p) → K (a.put d (.slice (some ⟨p, 0, none⟩) s.size c')) w') : wpOp P ops Q i K a w := by
  subst hd
  refine Held.op_wp i hi hw ?_
  have hrun := Lib.run_convert_string_bytes (P := P) w src dst e s hs ht he
  unfold Oper.wp execOp
  simp only [ho, hx, hrun, Sem.run_bind, Sem.run_pure, Result.andThen_ok]
  exact h _ _ _ (own_text w e s zs hz hm) (Lib.bytesWorld_below w e s) (Lib.hid (Nat.le_refl _))
end
def textOf (s : ByteArray) : List Int := s.data.toList.map fun b => (b.toNat : Int)
theorem textOf_length (s : ByteArray) : (textOf s).length = s.size := by rw [textOf, List.length_map]; rfl
set_option maxRecDepth 100000 in
set_option maxHeartbeats 8000000 in
theorem below_any (above : List Int) (ha : above.length = 32) (hab : ∀ z ∈ above, (Lit.int .u8 z).wf = true) (s : ByteArray) (hs : s.size ≤ 1000) (bx : Nat) (A : Option Addr) (m c : Nat) (xs : List Int) (w : World)
    (hbx : w.cell? ⟨bx, 0, none⟩ = some (.slice A m c)) (hx : Ints w .u64 w.heap.size A m xs) (hm : m ≤ 1000) (hT0 : Tab w 2 Sum.H0) (hT1 : Tab w 3 Sum.K) :
    Calls Tryz.prog 36 #[.agg (arr .u8 above), .string s, .func (.func 62) #[] #[.pointer (some ⟨bx, 0, none⟩)]] w fun e w' => e = .returned (.agg (arr .u8 (hkey [] above (textOf s ++ eights xs)))) ∧ Below w.heap.size w w' := by
  have HK := Lib.hid ha
  have hbl := World.block_lt_of_cell? w _ hbx
  have HS := Lib.hid (textOf_length s)
  have HX := Lib.hid hx.1
  clear ha
  go_enter Tryz.func36, Tryz.ntmps36
  go_wp2_with (first
    | (refine wpList_box_Row (w := w) rfl 22 _ rfl .u8 above rfl hab ?_; intro w1 r1 g1 z1)
    | (refine wpList_alloc_Row (w := w1) rfl 22 rfl .u8 32 zero_32 ?_; intro w2 r2 g2 z2))
  obtain ⟨ga, hga⟩ : ∃ g, w.heap.size = g := ⟨_, rfl⟩
  obtain ⟨gr, hgr⟩ : ∃ g, w1.heap.size = g := ⟨_, rfl⟩
  have k1 := r1.grown g2 (by simp)
  have b2 : Below w.heap.size w w2 := ((Below.refl _ w).grown g1 (Nat.le_refl _) (by simp)).grown g2 g1.size (by simp)
  have hgrw : w.heap.size ≤ gr := by rw [← hgr]; exact g1.size
  rw [hgr] at r2 ⊢
  rw [hga] at k1 ⊢
  have HGA := Lib.hid hga
  clear hga hgr r1 g1 g2 z1 z2
  refine wp_region_held (S := fun W => Below gr w2 W) (by kernel_rfl) ?_
  change wpAnyH _ _ _ _ _ _ _ _ w2.drew
  have e0 := (Below.refl w2.heap.size w2).drew
  have hg2 : gr ≤ w2.heap.size := Nat.le_of_lt r2.lt
  have c0 := e0.mono hg2
  refine Held.tk (v := .slice (some ⟨ga, 0, none⟩) 32 32) 0 (some 7) rfl (Held.y_slice rfl (fun X => run_slice_arr_all (P := Tryz.prog) 22 5 32 ga X Tryz.underlying22 (by kernel_rfl) (by omega))) c0 ?_
  simp only [Act.put, Z1, Z2, Z3]
  refine Held.tk (v := .string s) 1 (some 8) rfl (Held.y_move rfl rfl) c0 ?_
  simp only [Act.put, Z1, Z2, Z3]
  refine Held.tk (v := .func (.func 62) #[] #[.pointer (some ⟨bx, 0, none⟩)]) 3 (some 10) rfl (Held.y_move rfl rfl) c0 ?_
  simp only [Act.put, Z1, Z2, Z3]
  refine Held.one 2 (by kernel_rfl) ?_
  refine op_text 2 (some 9) 9 27 5 s (textOf s) rfl rfl rfl rfl rfl Tryz.underlying9 Tryz.underlying27 Tryz.underlying5 rfl (by omega) ?_
  intro p cp w3 o3 b3 hp
  have hp := hp.out
  have hp : w2.heap.size ≤ p := hp
  have e3 : Below w2.heap.size w2 w3 := e0.trans b3
  have d3 := b2.trans (e3.mono b2.size)
  have hpw : w.heap.size ≤ p := Nat.le_trans b2.size hp
  refine ⟨e3.mono hg2, ?_⟩
  simp only [Act.put, Z1, Z2, Z3]
  refine Held.one 4 (by kernel_rfl) ?_
  refine Held.op_call 4 (some 11) 38 #[.slice (some ⟨p, 0, none⟩) s.size cp, .func (.func 62) #[] #[.pointer (some ⟨bx, 0, none⟩)]] rfl rfl rfl rfl (enters_of Tryz.func38 (by kernel_rfl) rfl) (by simp [Act.eval]) (laid_any w2.heap.size (some ⟨p, 0, none⟩) s.size cp (textOf s) bx A m c xs w3 o3 e3.size (by rw [HS.out]; omega) ((d3.cell (p := ⟨bx, 0, none⟩) hbl).trans hbx) (fun e => by have e : some p = some bx := e; injection e with e; have : bx < w.heap.size := hbl; omega) (IntsN.of (hx.below d3) (fun b hb e => by have e : some p = some b := e; injection e with e; omega)) (by omega)) ?_
  rintro e w4 ⟨A4, n4, c4, rfl, o4, b4⟩
  have e4 : Below w2.heap.size w2 w4 := e3.trans b4
  have d4 := b2.trans (e4.mono b2.size)
  clear o3 b3 b4
  refine ⟨_, rfl, e4.mono hg2, ?_⟩
  simp only [Act.put, Z1, Z2, Z3]
  obtain ⟨q1, q2, q3⟩ := o4.caps
  have hn4 : n4 ≤ 20000 := by rw [← q1, List.length_append, eights_length, HS.out, HX.out]; omega
  have i4 := o4.ints q1
  have hk4 := (k1.below e4 k1.lt).ints (n := 32) (by rw [HK.out]; omega)
  rw [List.take_of_length_le (by rw [HK.out]; omega)] at hk4
  have s4 : w2.heap.size ≤ w4.heap.size := e4.size
  clear q1
  refine Held.one 5 (by kernel_rfl) ?_
  refine Held.op_call 5 (some 12) 61 #[.slice none 0 0, .slice (some ⟨ga, 0, none⟩) 32 32, .slice A4 n4 c4] rfl rfl rfl rfl (enters_of Tryz.func61 (by kernel_rfl) rfl) (by simp [Act.eval]) (key_any w4.heap.size w4.heap.size w4.heap.size none (some ⟨ga, 0, none⟩) A4 0 0 32 32 n4 c4 [] above (textOf s ++ eights xs) w4 (Ints.nil _ _ _ _) (Nat.le_refl _) (Nat.le_refl _) (by simp [maxLen]) (by omega) hk4 (Nat.le_refl _) (Nat.le_refl _) (by simp [maxLen]) (by omega) i4 (Nat.le_refl _) q2 q3 (by omega) (hT0.below d4 hT0.lt) (hT1.below d4 hT1.lt)) ?_
  rintro e w5 ⟨rfl, b5⟩
  have e5 := e4.trans (b5.mono e4.size)
  have d5 := b2.trans (e5.mono b2.size)
  have n5 := r2.below e5 r2.lt
  have HO := Lib.hid (hkey_length [] above (textOf s ++ eights xs))
  have HW := Lib.hid (hkey_wf [] above (textOf s ++ eights xs))
  clear i4 hk4 o4 b5
  obtain ⟨key, hkk⟩ : ∃ key, hkey [] above (textOf s ++ eights xs) = key := ⟨_, rfl⟩
  rw [hkk] at HO HW ⊢
  have HKK := Lib.hid hkk
  clear hkk
  refine ⟨_, rfl, e5.mono hg2, ?_⟩
  simp only [Act.put, Z1, Z2, Z3]
  refine Held.one 6 (by kernel_rfl) ?_
  refine Held.op_store_RowL 6 none 22 gr 22 .u8 _ key rfl rfl rfl rfl rfl rfl n5 32 info_32 HO.out (by simp) HW.out ?_
  intro wz rz gz
  have ez : Below gr w2 wz := (e5.mono hg2).grown gz (Nat.le_trans hg2 e5.size) (fun r e => by cases e; exact Nat.le_refl _)
  have dz := d5.grown gz d5.size (fun r e => by cases e; exact hgrw)
  refine ⟨ez, ?_⟩
  simp only [Act.put]
  refine wpAnyH_done (by kernel_rfl) ?_ _
  clear ez gz
  go_wp2_with fail
  exact bodyPost_ret (results_Row rfl _ _ gr _ _ _ rfl rz 32 5 Tryz.underlying22 info_32 HO.out) rfl ⟨by rw [HKK.out], dz⟩
theorem order_cell (A : Option Addr) (m c : Nat) (w : World) :
    Calls Tryz.prog 39 #[.slice A m c] w fun e w' => ∃ bx : Nat, e = .returned (.func (.func 62) #[] #[.pointer (some ⟨bx, 0, none⟩)]) ∧ w'.cell? ⟨bx, 0, none⟩ = some (.slice A m c) ∧ w.heap.size ≤ bx ∧ Below w.heap.size w w' :=
  (order_any A m c w).mono fun e w' ⟨he, hw⟩ => ⟨w.heap.size, he, by rw [hw, World.cell?_alloc_at _ _ _ _ rfl]; rfl, Nat.le_refl _, by rw [hw]; exact (Below.refl _ w).alloc (Nat.le_refl _) _⟩
def kPlace (job : List Int) (ph r a : Int) : List Int := hkey [] job ([112, 108, 97, 99, 101] ++ eights [u64 ph, u64 r, u64 a])
theorem wpList_box_place {P : Program} {ops : Array Oper} {rest : List Oper} {o : Oper} {a : Act} {w : World} {Q : Exit → Act → World → Prop} (hgd : o.guard = none) (x : Operand) (ho : o.op = .box 25 x) (cs : Array Value) (hx : a.eval x = .agg cs) (hc : (Value.agg cs).cells = cs)
    (h : ∀ w', w'.heap[w.heap.size]? = some (.cells cs 25 (0, 0)) → w.grownBy w' none → wpList P ops Q rest (a.put o.dst (.pointer (some ⟨w.heap.size, 0, none⟩))) w') : wpList P ops Q (o :: rest) a w := by
  refine wpList_plain hgd fun K hK => ?_
  unfold Oper.wp execOp
  simp only [ho, hx, Sem.run_bind, Instr.box, newVar, newRow, run_newObj_alloc, Sem.run_pure, Result.andThen_ok, hc]
  exact hK _ _ (h _ (heap_alloc_new w _) (World.grownBy_alloc w _ none))
set_option maxRecDepth 100000 in
set_option maxHeartbeats 8000000 in
theorem place_any (key0 : List Int) (hk : key0.length = 32) (hkb : ∀ z ∈ key0, (Lit.int .u8 z).wf = true) (ph r a t i : Int) (w : World) (hT0 : Tab w 2 Sum.H0) (hT1 : Tab w 3 Sum.K) :
    Calls Tryz.prog 15 #[.agg (arr .u8 key0), .agg #[.int .i64 ph, .int .i64 r, .int .i64 a, .int .u64 t, .int .i64 i]] w fun e w' => e = .returned (.agg (arr .u8 (kPlace key0 ph r a))) ∧ Below w.heap.size w w' := by
  have HK := Lib.hid hk
  have HKB := Lib.hid hkb
  clear hk hkb
  go_enter Tryz.func15, Tryz.ntmps15
  go_wp2_with (first
    | (refine wpList_box_Row (w := w) rfl 22 _ rfl .u8 key0 rfl HKB.out ?_; intro w1 r1 g1 z1)
    | (refine wpList_box_place (w := w1) rfl _ rfl #[.int .i64 ph, .int .i64 r, .int .i64 a, .int .u64 t, .int .i64 i] rfl rfl ?_; intro wq rq gq)
    | (refine wpList_alloc_Row (w := wq) rfl 22 rfl .u8 32 zero_32 ?_; intro w2 r2 g2 z2))
  obtain ⟨ga, hga⟩ : ∃ g, w.heap.size = g := ⟨_, rfl⟩
  obtain ⟨gp, hgp⟩ : ∃ g, w1.heap.size = g := ⟨_, rfl⟩
  obtain ⟨gr, hgr⟩ : ∃ g, wq.heap.size = g := ⟨_, rfl⟩
  have k1 := (r1.grown gq (by simp)).grown g2 (by simp)
  have b2 : Below w.heap.size w w2 := (((Below.refl _ w).grown g1 (Nat.le_refl _) (by simp)).grown gq g1.size (by simp)).grown g2 (Nat.le_trans g1.size gq.size) (by simp)
  have hgrw : w.heap.size ≤ gr := by rw [← hgr]; exact Nat.le_trans g1.size gq.size
  have hgpr : gp < gr := by rw [← hgr]; rw [hgp] at rq; exact (Array.getElem?_eq_some_iff.1 rq).1
  have q2 := Held.keep_cells rq g2 (by simp)
  rw [hgr] at r2 ⊢
  rw [hgp] at q2 ⊢
  have hgar : ga < gr := by rw [← hga]; exact Nat.lt_of_lt_of_le r1.lt (by rw [← hgr]; exact gq.size)
  rw [hga] at k1 ⊢
  have HGA := Lib.hid hga
  clear hga hgr hgp r1 g1 gq g2 z1 z2 rq
  refine wp_region_held (S := fun W => Below gr w2 W) (by kernel_rfl) ?_
  change wpAnyH _ _ _ _ _ _ _ _ w2.drew
  have e0 := (Below.refl w2.heap.size w2).drew
  have hg2 : gr ≤ w2.heap.size := Nat.le_of_lt r2.lt
  have c0 := e0.mono hg2
  refine Held.tk (v := .agg (arr .u8 key0)) 0 (some 5) rfl (Held.y_load_Row (zs := key0) rfl rfl Tryz.underlying22 info_32 HK.out (fun W hW => k1.below hW hgar)) c0 ?_
  simp only [Act.put, Z1, Z2, Z3]
  refine Held.tk (v := .agg #[.int .i64 ph, .int .i64 r, .int .i64 a, .int .u64 t, .int .i64 i]) 1 (some 6) rfl (y_load_place rfl rfl rfl (fun W hW => (hW.block gp hgpr).trans q2)) c0 ?_
  simp only [Act.put, Z1, Z2, Z3]
  refine Held.one 2 (by kernel_rfl) ?_
  refine Held.op_call 2 (some 7) 37 #[.agg #[.int .i64 ph, .int .i64 r, .int .i64 a, .int .u64 t, .int .i64 i]] rfl rfl rfl rfl (enters_of Tryz.func37 (by kernel_rfl) rfl) (by simp [Act.eval]) (spot_any ph r a t i w2.drew) ?_
  rintro e w4 ⟨bx, p, rfl, cb, r4, hp1, hp2, b4⟩
  have e4 : Below w2.heap.size w2 w4 := e0.trans b4
  clear hp1 hp2
  refine ⟨_, rfl, e4.mono hg2, ?_⟩
  simp only [Act.put, Z1, Z2, Z3]
  refine Held.one 3 (by kernel_rfl) ?_
  refine Held.op_call 3 (some 8) 36 #[.agg (arr .u8 key0), .string ⟨#[112, 108, 97, 99, 101]⟩, .func (.func 62) #[] #[.pointer (some ⟨bx, 0, none⟩)]] rfl rfl rfl rfl (enters_of Tryz.func36 (by kernel_rfl) rfl) (by simp [Act.eval]) (below_any key0 HK.out HKB.out ⟨#[112, 108, 97, 99, 101]⟩ (by decide) bx (some ⟨p, 0, none⟩) 3 3 [u64 ph, u64 r, u64 a] w4 cb (r4.ints (n := 3) (by simp)) (by omega) (hT0.below (b2.trans (e4.mono b2.size)) hT0.lt) (hT1.below (b2.trans (e4.mono b2.size)) hT1.lt)) ?_
  rintro e w5 ⟨rfl, b5⟩
  have e5 := e4.trans (b5.mono e4.size)
  have d5 := b2.trans (e5.mono b2.size)
  have n5 := r2.below e5 r2.lt
  have HO := Lib.hid (hkey_length [] key0 (textOf ⟨#[112, 108, 97, 99, 101]⟩ ++ eights [u64 ph, u64 r, u64 a]))
  have HW := Lib.hid (hkey_wf [] key0 (textOf ⟨#[112, 108, 97, 99, 101]⟩ ++ eights [u64 ph, u64 r, u64 a]))
  obtain ⟨key, hkk⟩ : ∃ key, hkey [] key0 (textOf ⟨#[112, 108, 97, 99, 101]⟩ ++ eights [u64 ph, u64 r, u64 a]) = key := ⟨_, rfl⟩
  rw [hkk] at HO HW ⊢
  have HKK := Lib.hid hkk
  clear hkk b5
  refine ⟨_, rfl, e5.mono hg2, ?_⟩
  simp only [Act.put, Z1, Z2, Z3]
  refine Held.one 4 (by kernel_rfl) ?_
  refine Held.op_store_RowL 4 none 22 gr 22 .u8 _ key rfl rfl rfl rfl rfl rfl n5 32 info_32 HO.out (by simp) HW.out ?_
  intro wz rz gz
  have ez : Below gr w2 wz := (e5.mono hg2).grown gz (Nat.le_trans hg2 e5.size) (fun r e => by cases e; exact Nat.le_refl _)
  have dz := d5.grown gz d5.size (fun r e => by cases e; exact hgrw)
  refine ⟨ez, ?_⟩
  simp only [Act.put]
  refine wpAnyH_done (by kernel_rfl) ?_ _
  clear ez gz
  go_wp2_with fail
  exact bodyPost_ret (results_Row rfl _ _ gr _ _ _ rfl rz 32 5 Tryz.underlying22 info_32 HO.out) rfl ⟨by rw [← HKK.out]; rfl, dz⟩
end Go.Proofs.YtjelacblnjbfgaaGreatDoor.Ky
namespace Go.Proofs.YtjelacblnjbfgaaGreatDoor.Ky
open Go.RowKit Go.Shelf Go.Proofs.YtjelacblnjbfgaaGreatDoor Mem Help Go.Proofs.YtjelacblnjbfgaaGreatDoor.Sum Sha Mac Po Go.Proofs.YtjelacblnjbfgaaGreatDoor.Range Hkdf
attribute [local irreducible] wpList wpListIn Calls
def kAad (ph r a t i n : Int) : List Int := eights [u64 ph, u64 r, u64 a] ++ eights [t, u64 i, u64 n]
theorem kAad_length (ph r a t i n : Int) : (kAad ph r a t i n).length = 48 := by rw [kAad, List.length_append, eights_length, eights_length]; rfl
set_option maxRecDepth 100000 in
set_option maxHeartbeats 8000000 in
theorem aad_any (ph r a t i n : Int) (ht : (Lit.int .u64 t).wf = true) (w : World) :
    Calls Tryz.prog 17 #[.agg #[.int .i64 ph, .int .i64 r, .int .i64 a, .int .u64 t, .int .i64 i], .int .i64 n] w fun e w' => ∃ A n' c, e = .returned (.slice A n' c) ∧ OwnM w' w.heap.size 5 .u8 (.slice A n' c) (kAad ph r a t i n) ∧ Below w.heap.size w w' := by
  have hwz : ∀ z ∈ [t, u64 i, u64 n], (Lit.int .u64 z).wf = true := fun z hz => by
    rcases List.mem_cons.1 hz with rfl | hz
    · exact ht
    rcases List.mem_cons.1 hz with rfl | hz
    · exact u64_wf _
    · rw [List.mem_singleton.1 hz]; exact u64_wf _
  go_enter Tryz.func17, Tryz.ntmps17
  go_wp2_with (refine wpList_box_place (w := w) rfl _ rfl #[.int .i64 ph, .int .i64 r, .int .i64 a, .int .u64 t, .int .i64 i] rfl rfl ?_; intro w1 q1 g1)
  have bw : Below w.heap.size w w1 := (Below.refl _ w).grown g1 (Nat.le_refl _) (by simp)
  obtain ⟨bp, hbe⟩ : ∃ b, w.heap.size = b := ⟨_, rfl⟩
  rw [hbe] at q1 ⊢
  have hbp : bp < w1.heap.size := (Array.getElem?_eq_some_iff.1 q1).1
  have q3 : w1.cell? ⟨bp, 3, none⟩ = some (.int .u64 t) := by rw [cell_of_row w1 bp 3 _ _ _ q1]; rfl
  have q4 : w1.cell? ⟨bp, 4, none⟩ = some (.int .i64 i) := by rw [cell_of_row w1 bp 4 _ _ _ q1]; rfl
  have HBE := Lib.hid hbe
  clear hbe g1
  refine wp_region_held (S := fun W => Below w1.heap.size w1 W) (by kernel_rfl) ?_
  change wpAnyH _ _ _ _ _ _ _ _ w1.drew
  have c0_0 := (Below.refl w1.heap.size w1).drew
  refine Held.tk (v := .agg #[.int .i64 ph, .int .i64 r, .int .i64 a, .int .u64 t, .int .i64 i]) 0 (some 5) rfl (y_load_place rfl rfl rfl (fun W hW => (hW.block bp hbp).trans q1)) c0_0 ?_
  simp only [Act.put, Z1, Z2, Z3]
  refine Held.tk (v := .pointer (some ⟨bp, 3, none⟩)) 3 (some 8) rfl (y_place (by omega) rfl rfl) c0_0 ?_
  simp only [Act.put, Z1, Z2, Z3]
  refine Held.tk (v := .int .u64 t) 4 (some 9) rfl (Held.y_load rfl rfl (by kernel_rfl) (fun W hW => (hW.cell (p := ⟨bp, 3, none⟩) hbp).trans q3)) c0_0 ?_
  simp only [Act.put, Z1, Z2, Z3]
  refine Held.tk (v := .pointer (some ⟨bp, 4, none⟩)) 5 (some 10) rfl (y_place (by omega) rfl rfl) c0_0 ?_
  simp only [Act.put, Z1, Z2, Z3]
  refine Held.tk (v := .int .i64 i) 6 (some 11) rfl (Held.y_load rfl rfl (by kernel_rfl) (fun W hW => (hW.cell (p := ⟨bp, 4, none⟩) hbp).trans q4)) c0_0 ?_
  simp only [Act.put, Z1, Z2, Z3]
  refine Held.tk (v := .int .u64 (u64 i)) 7 (some 12) rfl (Held.y_convert rfl rfl (by kernel_rfl) Tryz.underlying23 (u64_eq _)) c0_0 ?_
  simp only [Act.put, Z1, Z2, Z3]
  refine Held.tk (v := .int .i64 n) 8 (some 13) rfl (Held.y_move rfl rfl) c0_0 ?_
  simp only [Act.put, Z1, Z2, Z3]
  refine Held.tk (v := .int .u64 (u64 n)) 9 (some 14) rfl (Held.y_convert rfl rfl (by kernel_rfl) Tryz.underlying23 (u64_eq _)) c0_0 ?_
  simp only [Act.put, Z1, Z2, Z3]
  refine Held.two 1 10 (by kernel_rfl) ?_ ?_
  · refine Held.op_call 1 (some 6) 37 #[.agg #[.int .i64 ph, .int .i64 r, .int .i64 a, .int .u64 t, .int .i64 i]] rfl rfl rfl rfl (enters_of Tryz.func37 (by kernel_rfl) rfl) (by simp [Act.eval]) (spot_any ph r a t i w1.drew) ?_
    rintro e x1 ⟨bs, gs, rfl, cS, rS, hs1, hs2, b1⟩
    have c0_1 := c0_0.trans (b1.mono c0_0.size)
    clear hs1 hs2
    refine ⟨_, rfl, c0_1, ?_⟩
    simp only [Act.put, Z1, Z2, Z3]
    refine Held.two 2 10 (by kernel_rfl) ?_ ?_
    · refine Held.op_call 2 (some 7) 38 #[.slice none 0 0, .func (.func 62) #[] #[.pointer (some ⟨bs, 0, none⟩)]] rfl rfl rfl rfl (enters_of Tryz.func38 (by kernel_rfl) rfl) (by simp [Act.eval]) (laid_any x1.heap.size none 0 0 [] bs (some ⟨gs, 0, none⟩) 3 3 [u64 ph, u64 r, u64 a] x1 (OwnM.nil _ _ _ _) (Nat.le_refl _) (by simp) cS (by simp [Value.ownBlock]) (IntsN.row rS (fun e => by cases e)) (by omega)) ?_
      rintro e x2 ⟨A2, n2, c2, rfl, o2, b2⟩
      rw [List.nil_append] at o2
      have hL := o2.lt
      have c0_2 := c0_1.trans (b2.mono c0_1.size)
      clear hL cS rS
      refine ⟨_, rfl, c0_2, ?_⟩
      simp only [Act.put, Z1, Z2, Z3]
      refine Held.one 10 (by kernel_rfl) ?_
      refine Held.op_build_Row 10 (some 15) 96 23 3 .u64 8 [t, u64 i, u64 n] rfl rfl rfl rfl Tryz.underlying96 info_w64 (by simp [Act.eval]) rfl (by omega) (by omega) hwz ?_
      intro p x3 rR bb hp
      have b3 : Below x2.heap.size x2 x3 := ⟨bb.os, bb.tape, bb.output, bb.size, bb.block⟩
      have hap : ∀ b, (Value.slice A2 n2 c2).ownBlock = some b → b ≠ p := fun b e q => by have h1 := (o2.lt b e).2; have h2 : x2.heap.size ≤ p := hp.out; omega
      have c0_3 := c0_2.trans (b3.mono c0_2.size)
      have o2 := o2.below b3
      clear bb
      refine ⟨c0_3, ?_⟩
      simp only [Act.put, Z1, Z2, Z3]
      refine Held.one 11 (by kernel_rfl) ?_
      refine Held.op_call 11 (some 16) 39 #[.slice (some ⟨p, 0, none⟩) 3 3] rfl rfl rfl rfl (enters_of Tryz.func39 (by kernel_rfl) rfl) (by simp [Act.eval]) (order_cell _ 3 3 x3) ?_
      rintro e x4 ⟨bq, rfl, cQ, hbq, b4⟩
      have hne : (Value.slice A2 n2 c2).ownBlock ≠ some bq := fun e => by have := (o2.lt bq e).2; omega
      have c0_4 := c0_3.trans (b4.mono c0_3.size)
      have rR := rR.below b4 rR.lt
      have o2 := o2.below b4
      clear hbq
      refine ⟨_, rfl, c0_4, ?_⟩
      simp only [Act.put, Z1, Z2, Z3]
      refine Held.one 12 (by kernel_rfl) ?_
      have s1 := c0_4.size
      refine Held.op_call 12 (some 17) 38 #[.slice A2 n2 c2, .func (.func 62) #[] #[.pointer (some ⟨bq, 0, none⟩)]] rfl rfl rfl rfl (enters_of Tryz.func38 (by kernel_rfl) rfl) (by simp [Act.eval]) (laid_any w1.heap.size A2 n2 c2 (eights [u64 ph, u64 r, u64 a]) bq (some ⟨p, 0, none⟩) 3 3 [t, u64 i, u64 n] x4 (o2.less (by first | exact Nat.le_refl _ | exact c0_1.size | exact c0_2.size)) s1 (by rw [eights_length]; simp) cQ hne (IntsN.row rR (fun e => hap _ e rfl)) (by omega)) ?_
      rintro e x5 ⟨A3, n3, c3, rfl, o3, b5⟩
      have c0_5 := c0_4.trans b5
      clear o2 rR cQ hap hne s1
      refine ⟨_, rfl, c0_5, ?_⟩
      simp only [Act.put, Z1, Z2, Z3]
      refine Held.tk (v := .slice A3 n3 c3) 13 (some 4) rfl (Held.y_assign rfl rfl) c0_5 ?_
      simp only [Act.put, Z1, Z2, Z3]
      refine wpAnyH_done (by kernel_rfl) ?_ _
      have dz := bw.trans (c0_5.mono bw.size)
      go_wp2_with fail
      go_ret
      exact ⟨_, _, _, rfl, o3.less bw.size, dz⟩
    · refine Held.op_build_Row 10 (some 15) 96 23 3 .u64 8 [t, u64 i, u64 n] rfl rfl rfl rfl Tryz.underlying96 info_w64 (by simp [Act.eval]) rfl (by omega) (by omega) hwz ?_
      intro p x2 rR bb hp
      have b2 : Below x1.heap.size x1 x2 := ⟨bb.os, bb.tape, bb.output, bb.size, bb.block⟩
      have c0_2 := c0_1.trans (b2.mono c0_1.size)
      have cS := (b2.cell (p := ⟨bs, 0, none⟩) (World.block_lt_of_cell? x1 _ cS)).trans cS
      have rS := rS.below b2 rS.lt
      clear bb
      refine ⟨c0_2, ?_⟩
      simp only [Act.put, Z1, Z2, Z3]
      refine Held.one 2 (by kernel_rfl) ?_
      refine Held.op_call 2 (some 7) 38 #[.slice none 0 0, .func (.func 62) #[] #[.pointer (some ⟨bs, 0, none⟩)]] rfl rfl rfl rfl (enters_of Tryz.func38 (by kernel_rfl) rfl) (by simp [Act.eval]) (laid_any x2.heap.size none 0 0 [] bs (some ⟨gs, 0, none⟩) 3 3 [u64 ph, u64 r, u64 a] x2 (OwnM.nil _ _ _ _) (Nat.le_refl _) (by simp) cS (by simp [Value.ownBlock]) (IntsN.row rS (fun e => by cases e)) (by omega)) ?_
      rintro e x3 ⟨A2, n2, c2, rfl, o2, b3⟩
      rw [List.nil_append] at o2
      have hL := o2.lt
      have hap : ∀ b, (Value.slice A2 n2 c2).ownBlock = some b → b ≠ p := fun b e q => by have h1 := (hL b e).1; have h2 := rR.lt; subst q; omega
      have c0_3 := c0_2.trans (b3.mono c0_2.size)
      have rR := rR.below b3 rR.lt
      clear hL cS rS
      refine ⟨_, rfl, c0_3, ?_⟩
      simp only [Act.put, Z1, Z2, Z3]
      refine Held.one 11 (by kernel_rfl) ?_
      refine Held.op_call 11 (some 16) 39 #[.slice (some ⟨p, 0, none⟩) 3 3] rfl rfl rfl rfl (enters_of Tryz.func39 (by kernel_rfl) rfl) (by simp [Act.eval]) (order_cell _ 3 3 x3) ?_
      rintro e x4 ⟨bq, rfl, cQ, hbq, b4⟩
      have hne : (Value.slice A2 n2 c2).ownBlock ≠ some bq := fun e => by have := (o2.lt bq e).2; omega
      have c0_4 := c0_3.trans (b4.mono c0_3.size)
      have rR := rR.below b4 rR.lt
      have o2 := o2.below b4
      clear hbq
      refine ⟨_, rfl, c0_4, ?_⟩
      simp only [Act.put, Z1, Z2, Z3]
      refine Held.one 12 (by kernel_rfl) ?_
      have s1 := c0_4.size
      refine Held.op_call 12 (some 17) 38 #[.slice A2 n2 c2, .func (.func 62) #[] #[.pointer (some ⟨bq, 0, none⟩)]] rfl rfl rfl rfl (enters_of Tryz.func38 (by kernel_rfl) rfl) (by simp [Act.eval]) (laid_any w1.heap.size A2 n2 c2 (eights [u64 ph, u64 r, u64 a]) bq (some ⟨p, 0, none⟩) 3 3 [t, u64 i, u64 n] x4 (o2.less (by first | exact Nat.le_refl _ | exact c0_1.size | exact c0_2.size)) s1 (by rw [eights_length]; simp) cQ hne (IntsN.row rR (fun e => hap _ e rfl)) (by omega)) ?_
      rintro e x5 ⟨A3, n3, c3, rfl, o3, b5⟩
      have c0_5 := c0_4.trans b5
      clear o2 rR cQ hap hne s1
      refine ⟨_, rfl, c0_5, ?_⟩
      simp only [Act.put, Z1, Z2, Z3]
      refine Held.tk (v := .slice A3 n3 c3) 13 (some 4) rfl (Held.y_assign rfl rfl) c0_5 ?_
      simp only [Act.put, Z1, Z2, Z3]
      refine wpAnyH_done (by kernel_rfl) ?_ _
      have dz := bw.trans (c0_5.mono bw.size)
      go_wp2_with fail
      go_ret
      exact ⟨_, _, _, rfl, o3.less bw.size, dz⟩
  · refine Held.op_build_Row 10 (some 15) 96 23 3 .u64 8 [t, u64 i, u64 n] rfl rfl rfl rfl Tryz.underlying96 info_w64 (by simp [Act.eval]) rfl (by omega) (by omega) hwz ?_
    intro p x1 rR bb hp
    have b1 : Below w1.drew.heap.size w1.drew x1 := ⟨bb.os, bb.tape, bb.output, bb.size, bb.block⟩
    have c0_1 := c0_0.trans (b1.mono c0_0.size)
    clear bb
    refine ⟨c0_1, ?_⟩
    simp only [Act.put, Z1, Z2, Z3]
    refine Held.one 1 (by kernel_rfl) ?_
    refine Held.op_call 1 (some 6) 37 #[.agg #[.int .i64 ph, .int .i64 r, .int .i64 a, .int .u64 t, .int .i64 i]] rfl rfl rfl rfl (enters_of Tryz.func37 (by kernel_rfl) rfl) (by simp [Act.eval]) (spot_any ph r a t i x1) ?_
    rintro e x2 ⟨bs, gs, rfl, cS, rS, hs1, hs2, b2⟩
    have c0_2 := c0_1.trans (b2.mono c0_1.size)
    have rR := rR.below b2 rR.lt
    clear hs1 hs2
    refine ⟨_, rfl, c0_2, ?_⟩
    simp only [Act.put, Z1, Z2, Z3]
    refine Held.one 2 (by kernel_rfl) ?_
    refine Held.op_call 2 (some 7) 38 #[.slice none 0 0, .func (.func 62) #[] #[.pointer (some ⟨bs, 0, none⟩)]] rfl rfl rfl rfl (enters_of Tryz.func38 (by kernel_rfl) rfl) (by simp [Act.eval]) (laid_any x2.heap.size none 0 0 [] bs (some ⟨gs, 0, none⟩) 3 3 [u64 ph, u64 r, u64 a] x2 (OwnM.nil _ _ _ _) (Nat.le_refl _) (by simp) cS (by simp [Value.ownBlock]) (IntsN.row rS (fun e => by cases e)) (by omega)) ?_
    rintro e x3 ⟨A2, n2, c2, rfl, o2, b3⟩
    rw [List.nil_append] at o2
    have hL := o2.lt
    have hap : ∀ b, (Value.slice A2 n2 c2).ownBlock = some b → b ≠ p := fun b e q => by have h1 := (hL b e).1; have h2 := rR.lt; subst q; omega
    have c0_3 := c0_2.trans (b3.mono c0_2.size)
    have rR := rR.below b3 rR.lt
    clear hL cS rS
    refine ⟨_, rfl, c0_3, ?_⟩
    simp only [Act.put, Z1, Z2, Z3]
    refine Held.one 11 (by kernel_rfl) ?_
    refine Held.op_call 11 (some 16) 39 #[.slice (some ⟨p, 0, none⟩) 3 3] rfl rfl rfl rfl (enters_of Tryz.func39 (by kernel_rfl) rfl) (by simp [Act.eval]) (order_cell _ 3 3 x3) ?_
    rintro e x4 ⟨bq, rfl, cQ, hbq, b4⟩
    have hne : (Value.slice A2 n2 c2).ownBlock ≠ some bq := fun e => by have := (o2.lt bq e).2; omega
    have c0_4 := c0_3.trans (b4.mono c0_3.size)
    have rR := rR.below b4 rR.lt
    have o2 := o2.below b4
    clear hbq
    refine ⟨_, rfl, c0_4, ?_⟩
    simp only [Act.put, Z1, Z2, Z3]
    refine Held.one 12 (by kernel_rfl) ?_
    have s1 := c0_4.size
    refine Held.op_call 12 (some 17) 38 #[.slice A2 n2 c2, .func (.func 62) #[] #[.pointer (some ⟨bq, 0, none⟩)]] rfl rfl rfl rfl (enters_of Tryz.func38 (by kernel_rfl) rfl) (by simp [Act.eval]) (laid_any w1.heap.size A2 n2 c2 (eights [u64 ph, u64 r, u64 a]) bq (some ⟨p, 0, none⟩) 3 3 [t, u64 i, u64 n] x4 (o2.less (by first | exact Nat.le_refl _ | exact c0_1.size | exact c0_2.size)) s1 (by rw [eights_length]; simp) cQ hne (IntsN.row rR (fun e => hap _ e rfl)) (by omega)) ?_
    rintro e x5 ⟨A3, n3, c3, rfl, o3, b5⟩
    have c0_5 := c0_4.trans b5
    clear o2 rR cQ hap hne s1
    refine ⟨_, rfl, c0_5, ?_⟩
    simp only [Act.put, Z1, Z2, Z3]
    refine Held.tk (v := .slice A3 n3 c3) 13 (some 4) rfl (Held.y_assign rfl rfl) c0_5 ?_
    simp only [Act.put, Z1, Z2, Z3]
    refine wpAnyH_done (by kernel_rfl) ?_ _
    have dz := bw.trans (c0_5.mono bw.size)
    go_wp2_with fail
    go_ret
    exact ⟨_, _, _, rfl, o3.less bw.size, dz⟩
end Go.Proofs.YtjelacblnjbfgaaGreatDoor.Ky
namespace Go.Proofs.YtjelacblnjbfgaaGreatDoor.Ky
open Go.RowKit Go.Shelf Go.Proofs.YtjelacblnjbfgaaGreatDoor Mem Help Go.Proofs.YtjelacblnjbfgaaGreatDoor.Sum Sha Mac Po Hkdf
attribute [local irreducible] wpList wpListIn Calls
set_option maxRecDepth 100000 in
set_option maxHeartbeats 4000000 in
theorem eight_any (x : Int) (w : World) :
    Calls Tryz.prog 69 #[.int .u64 x] w fun e w' => ∃ A' c', e = .returned (.slice A' 8 c') ∧ Mem.Own w' w.heap.size 5 .u8 (.slice A' 8 c') (digits x 8) ∧ Below w.heap.size w w' := by
  go_enter Tryz.func69, Tryz.ntmps69
  go_wp2_with fail
  go_loopw [3, 4] (fun u i wr => ∃ (k : Nat) (A : Option Addr) (c : Nat), k ≤ 8 ∧ u = .slice A k c ∧ i = .int .i64 k ∧ Mem.Own wr w.heap.size 5 .u8 (.slice A k c) (digits x k) ∧ Below w.heap.size w wr) (fun _ i _ => 8 - (intOf i).toNat)
  case atStart => exact ⟨0, none, 0, by omega, rfl, rfl, Mem.Own.nil _ _ _ _, Below.refl _ _⟩
  case round =>
    obtain ⟨k, A, c, hk, rfl, rfl, ok, bk⟩ := hrel
    by_cases hlt : k < 8
    · have hlt' : (k : Int) < 8 := by omega
      have hk0 : (0 : Int) ≤ (k : Int) := by omega
      have W1 : IntKind.i64.wrap (8 * (k : Int)) = ((8 * k : Nat) : Int) := by rw [IntKind.wrap_i64]; omega
      have W2 : IntKind.u64.wrap ((8 * k : Nat) : Int) = ((8 * k : Nat) : Int) := by rw [IntKind.wrap_u64]; omega
      have W3 : IntKind.u8.wrap (x / 2 ^ (8 * k)) = x / 2 ^ (8 * k) % 256 := by rw [IntKind.wrap_u8]
      have W4 := fun W => Held.run_shr (P := Tryz.prog) 23 .u64 .u64 (a := x) (8 * k) (by show 8 * k ≤ 64; omega) rfl W
      have hwz : ∀ z ∈ [x / 2 ^ (8 * k) % 256], (Lit.int .u8 z).wf = true := fun z hz => by rw [List.mem_singleton.1 hz]; exact wf_byte (byte_range k)
      have HD := Lib.hid (digits_snoc k x)
      have HL := Lib.hid (digits_length k x)
      generalize x / 2 ^ (8 * k) % 256 = b at W3 hwz HD
      go_wp2_with (first
        | (refine Held.wpList_build_row (w := wr) rfl 27 5 1 _ rfl .u8 1 [b] Tryz.underlying27 info_u8 (by simp [Act.eval]) rfl (by omega) (by omega) hwz ?_; intro w2 r2 g2 z2; have o2 := ok.kept g2 (by cases (Value.slice A k c).ownBlock <;> simp))
        | (at_builtin; refine wpList_append_ints w2 rfl _ _ 27 rfl w.heap.size 5 .u8 1 Tryz.underlying27 info_u8 (.slice A k c) (digits x k) rfl o2 w2.heap.size (some ⟨wr.heap.size, 0, none⟩) 1 1 [b] rfl (by have := r2.ints (n := 1) (by simp); simpa using this) (by rw [HL.out]; omega) (by omega) (Nat.le_trans bk.size g2.size) ?_; intro v3 w3 o3 g3 t3; obtain ⟨A3, c3, rfl, h3a, h3b, j3⟩ := o3.form; obtain ⟨n3, hn3⟩ : ∃ n3, (digits x k ++ [b]).length = n3 := ⟨_, rfl⟩; rw [hn3] at o3 j3 h3a ⊢; have HN3 := Lib.hid hn3; clear hn3))
      have hn3 : n3 = k + 1 := by have := HN3.out; rw [List.length_append, HL.out] at this; simp at this; omega
      rw [← HD.out] at o3
      have b3 := (bk.grown g2 bk.size (by simp)).grown g3 (Nat.le_trans bk.size g2.size) (fun r e => (o2.2.lt r e).1)
      clear g2 g3 t3 r2 z2 j3 o2 ok bk HN3 HD
      subst hn3
      go_roundw
      case rel => exact ⟨k + 1, A3, c3, by omega, rfl, by go_num, o3, b3⟩
      case measure => simp [intOf]; omega
    · have hk8 : k = 8 := by omega
      subst hk8
      go_wp2_with fail
      go_ret
      exact ⟨A, c, rfl, ok, bk⟩
set_option maxRecDepth 100000 in
set_option maxHeartbeats 4000000 in
theorem eights_any (B : Nat) (A : Option Addr) (m c : Nat) (xs : List Int) (w : World) (h : Ints w .u64 B A m xs) (hB : B ≤ w.heap.size) (hm : m ≤ 1000) :
    Calls Tryz.prog 45 #[.slice A m c] w fun e w' => ∃ A' n' c', e = .returned (.slice A' n' c') ∧ Mem.Own w' w.heap.size 5 .u8 (.slice A' n' c') (eights xs) ∧ Below w.heap.size w w' := by
  have HM := Lib.hid h.1
  have hmi : (m : Int) ≤ 1000 := by omega
  go_enter Tryz.func45, Tryz.ntmps45
  go_wp2_with fail
  go_loopw [3, 4] (fun u i wr => ∃ (k n1 : Nat) (A1 : Option Addr) (c1 : Nat), k ≤ m ∧ u = .slice A1 n1 c1 ∧ i = .int .i64 k ∧ Mem.Own wr w.heap.size 5 .u8 (.slice A1 n1 c1) (eights (xs.take k)) ∧ Below w.heap.size w wr) (fun _ i _ => m - (intOf i).toNat)
  case atStart => exact ⟨0, 0, none, 0, by omega, rfl, rfl, by rw [List.take_zero]; exact Mem.Own.nil _ _ _ _, Below.refl _ _⟩
  case round =>
    obtain ⟨k, n1, A1, c1, hk, rfl, rfl, ok, bk⟩ := hrel
    by_cases hlt : k < m
    · obtain ⟨b, off, rfl, hb, hc⟩ := (h.below (bk.mono hB)).at_ hlt
      have hlt' : (k : Int) < (m : Int) := by omega
      have hk0 : (0 : Int) ≤ (k : Int) := by omega
      have hkl : k < xs.length := by rw [HM.out]; exact hlt
      have HE := Lib.hid (show eights (xs.take k) ++ digits (xs.getD k 0) 8 = eights (xs.take (k + 1)) by rw [← order_prefix xs hkl, eights_snoc])
      have HL := Lib.hid (show (eights (xs.take k)).length ≤ 8000 by rw [eights_length, List.length_take]; omega)
      generalize xs.getD k 0 = x at hc HE
      go_wp2_with fail
      refine (eight_any x wr).mono ?_
      rintro e w2 ⟨A2, c2, rfl, o2, b2⟩
      have j2 := o2.ints (digits_length 8 x)
      have oo := ok.below b2
      go_wp2_with (at_builtin; refine wpList_append_ints w2 rfl _ _ 27 rfl w.heap.size 5 .u8 1 Tryz.underlying27 info_u8 (.slice A1 n1 c1) (eights (xs.take k)) rfl oo w2.heap.size A2 8 c2 (digits x 8) rfl j2 (by have := HL.out; omega) (by omega) (Nat.le_trans bk.size b2.size) ?_; intro v3 w3 o3 g3 t3; obtain ⟨A3, c3, rfl, h3a, h3b, j3⟩ := o3.form; obtain ⟨n3, hn3⟩ : ∃ n3, (eights (xs.take k) ++ digits x 8).length = n3 := ⟨_, rfl⟩; rw [hn3] at o3 j3 h3a ⊢; have HN3 := Lib.hid hn3; clear hn3)
      rw [HE.out] at o3
      have b3 := (bk.trans (b2.mono bk.size)).grown g3 (Nat.le_trans bk.size b2.size) (fun r e => (oo.2.lt r e).1)
      clear g3 t3 j3 j2 oo o2 b2 ok bk HN3 HE HL hc h3a h3b
      go_roundw
      case rel => exact ⟨k + 1, n3, A3, c3, by omega, rfl, by go_num, o3, b3⟩
      case measure => simp [intOf]; omega
    · have hkm : k = m := by omega
      subst hkm
      rw [List.take_of_length_le (by rw [HM.out]; omega)] at ok
      go_wp2_with fail
      go_ret
      exact ⟨A1, n1, c1, rfl, ok, bk⟩
set_option maxHeartbeats 1000000 in
theorem raad_any (ph r a t i n : Int) (ht : (Lit.int .u64 t).wf = true) (w : World) :
    Calls Tryz.prog 23 #[.agg #[.int .i64 ph, .int .i64 r, .int .i64 a, .int .u64 t, .int .i64 i], .int .i64 n] w fun e w' => ∃ A n' c, e = .returned (.slice A n' c) ∧ OwnM w' w.heap.size 5 .u8 (.slice A n' c) (kAad ph r a t i n) ∧ Below w.heap.size w w' := by
  have h1 := u64_eq ph
  have h2 := u64_eq r
  have h3 := u64_eq a
  have h4 := u64_eq i
  have h5 := u64_eq n
  have hwz : ∀ z ∈ [u64 ph, u64 r, u64 a, t, u64 i, u64 n], (Lit.int .u64 z).wf = true := fun z hz => by
    simp only [List.mem_cons, List.not_mem_nil, or_false] at hz
    rcases hz with rfl | rfl | rfl | rfl | rfl | rfl <;> first | exact u64_wf _ | exact ht
  go_enter Tryz.func23, Tryz.ntmps23
  go_wp2_with (refine Held.wpList_build_row rfl 96 23 6 _ rfl .u64 8 [u64 ph, u64 r, u64 a, t, u64 i, u64 n] Tryz.underlying96 info_w64 (by simp_all [Act.eval]) rfl (by omega) (by omega) hwz ?_; intro w2 r2 g2 z2)
  have b2 : Below w.heap.size w w2 := ((Below.refl _ w).alloc (Nat.le_refl _) _).grown g2 (by simp) (by simp)
  have i2 := r2.ints (n := 6) (by simp)
  refine (eights_any w2.heap.size _ 6 6 [u64 ph, u64 r, u64 a, t, u64 i, u64 n] w2 (by simpa using i2) (Nat.le_refl _) (by omega)).mono ?_
  rintro e w3 ⟨A3, n3, c3, rfl, o3, b3⟩
  have c3' := b2.trans (b3.mono b2.size)
  have o3' : OwnM w3 w.heap.size 5 .u8 (.slice A3 n3 c3) (kAad ph r a t i n) := by
    have q := (OwnM.of o3).less b2.size
    rwa [show eights [u64 ph, u64 r, u64 a, t, u64 i, u64 n] = kAad ph r a t i n by simp [kAad, eights]] at q
  clear o3 b3 i2 g2 r2 z2 b2
  go_wp2_with fail
  go_ret
  exact ⟨A3, n3, c3, rfl, o3', c3'⟩
end Go.Proofs.YtjelacblnjbfgaaGreatDoor.Ky
namespace Go.Proofs.YtjelacblnjbfgaaGreatDoor.Ky
open Go.RowKit Go.Shelf Go.Proofs.YtjelacblnjbfgaaGreatDoor Mem Help Go.Proofs.YtjelacblnjbfgaaGreatDoor.Sum Sha Mac Po Hkdf
attribute [local irreducible] wpList wpListIn Calls
theorem digits_get : ∀ (n k : Nat) (x : Int), k < n → (digits x n).getD k 0 = x / 2 ^ (8 * k) % 256
  | 0, k, x, h => absurd h (by omega)
  | n + 1, 0, x, _ => by simp [digits]
  | n + 1, k + 1, x, h => by
    rw [digits, List.getD_cons_succ, digits_get n k (x / 256) (by omega)]
    congr 1
    rw [show (2 : Int) ^ (8 * (k + 1)) = 256 * 2 ^ (8 * k) by rw [show 8 * (k + 1) = 8 * k + 8 by omega, Int.pow_add]; omega, Int.ediv_ediv_of_nonneg (by omega)]
def part (xs : List Int) (k : Nat) : List Int := xs.take k ++ List.replicate (xs.length - k) 0
theorem part_length (xs : List Int) {k : Nat} (h : k ≤ xs.length) : (part xs k).length = xs.length := by simp [part]; omega
theorem part_zero (xs : List Int) : part xs 0 = List.replicate xs.length 0 := by simp [part]
theorem part_all (xs : List Int) : part xs xs.length = xs := by simp [part]
theorem part_set (xs : List Int) {k : Nat} (h : k < xs.length) : (part xs k).set k (xs.getD k 0) = part xs (k + 1) := by
  unfold part
  rw [List.set_append_right _ _ (by rw [List.length_take]; omega), List.length_take, Nat.min_eq_left (by omega), Nat.sub_self, show xs.length - k = (xs.length - (k + 1)) + 1 by omega, List.replicate_succ, List.set_cons_zero, ← order_prefix xs h]
  simp
theorem nonce_low (a i : Int) {k : Nat} (h : k < 8) : (nonce a i).getD k 0 = a / 2 ^ (8 * k) % 256 := by
  rw [nonce, List.getD_eq_getElem?_getD, List.getElem?_append_left (by rw [digits_length]; exact h), ← List.getD_eq_getElem?_getD, digits_get 8 k a h]
theorem nonce_high (a i : Int) {k : Nat} (h : k < 4) : (nonce a i).getD (8 + k) 0 = u64 i / 2 ^ (8 * k) % 256 := by
  rw [nonce, List.getD_eq_getElem?_getD, List.getElem?_append_right (by rw [digits_length]; omega), digits_length, Nat.add_sub_cancel_left, ← List.getD_eq_getElem?_getD, ← digits_congr 4 (show u64 i % 256 ^ 4 = i % 256 ^ 4 by unfold u64; omega), digits_get 4 k _ h]
set_option maxRecDepth 100000 in
set_option maxHeartbeats 4000000 in
theorem rnonce_any (a i : Int) (w : World) :
    Calls Tryz.prog 22 #[.int .u64 a, .int .i64 i] w fun e w' => e = .returned (.agg (arr .u8 (nonce a i))) ∧ Below w.heap.size w w' := by
  have hui := u64_eq i
  have HN := Lib.hid (nonce_length a i)
  have HB := Lib.hid (nonce_bytes a i)
  have HL := fun k (h : k < 8) => nonce_low a i h
  have HH := fun k (h : k < 4) => nonce_high a i h
  generalize hns : nonce a i = ns at HN HB HL HH
  have HNS := Lib.hid hns
  clear hns
  have HLL := Lib.hid HL
  have HHH := Lib.hid HH
  clear HL HH
  go_enter Tryz.func22, Tryz.ntmps22
  go_wp2_with (first
    | (refine wpList_alloc_Row (w := w) rfl 45 rfl .u8 12 zero_12 ?_; intro w1 r1 g1 z1)
    | (refine wpList_alloc_Row (w := w1) rfl 45 rfl .u8 12 zero_12 ?_; intro w2 r2 g2 z2))
  obtain ⟨g, hg⟩ : ∃ g, w1.heap.size = g := ⟨_, rfl⟩
  have b2 : Below w.heap.size w w2 := ((Below.refl _ w).grown g1 (Nat.le_refl _) (by simp)).grown g2 g1.size (by simp)
  have r12 := r1.grown g2 (by simp)
  have hgw : w.heap.size < g := by rw [← hg]; exact r1.lt
  rw [hg] at r2 ⊢
  have HP0 := Lib.hid (show List.replicate 12 (0 : Int) = part ns 0 by rw [part_zero, HN.out])
  clear hg r1 g1 g2 z1 z2
  go_loopw [6] (fun v wr => ∃ k : Nat, k ≤ 8 ∧ v = .int .i64 k ∧ Row wr g 45 .u8 (part ns k) ∧ Row wr w.heap.size 45 .u8 (List.replicate 12 0) ∧ Below w.heap.size w wr) (fun v _ => 8 - (intOf v).toNat)
  case atStart => exact ⟨0, by omega, rfl, by rw [← HP0.out]; exact r2, r12, b2⟩
  case round =>
    clear r2 r12 b2
    obtain ⟨k, hk, rfl, rk, ro, bk⟩ := hrel
    by_cases hlt : k < 8
    · have hkn : k < ns.length := by rw [HN.out]; omega
      have hc := rk.cell (i := k) (by rw [part_length ns (by omega)]; exact hkn)
      have hf := rk.frozen k
      have HS : Hid (Row (wr.setCell ⟨g, k, none⟩ (.int .u8 (a / 2 ^ (8 * k) % 256))) g 45 .u8 (part ns (k + 1))) := Lib.hid (by rw [← part_set ns hkn, HLL.out k hlt]; exact rk.set k (wf_byte (byte_range k)))
      have hlt' : (k : Int) < 8 := by omega
      have hk0 : (0 : Int) ≤ (k : Int) := by omega
      have W1 : IntKind.i64.wrap (8 * (k : Int)) = ((8 * k : Nat) : Int) := by rw [IntKind.wrap_i64]; omega
      have W2 : IntKind.u64.wrap ((8 * k : Nat) : Int) = ((8 * k : Nat) : Int) := by rw [IntKind.wrap_u64]; omega
      have W3 : IntKind.u8.wrap (a / 2 ^ (8 * k)) = a / 2 ^ (8 * k) % 256 := by rw [IntKind.wrap_u8]
      have W4 := fun W => Held.run_shr (P := Tryz.prog) 23 .u64 .u64 (a := a) (8 * k) (by show 8 * k ≤ 64; omega) rfl W
      generalize a / 2 ^ (8 * k) % 256 = b at W3 HS
      generalize (part ns k).getD k 0 = old at hc
      go_wp2_with fail
      go_roundw
      case rel => exact ⟨k + 1, by omega, by go_num, HS.out, ro.other (by simp; omega) _, bk.setCell (by simp; omega) _⟩
      case measure => simp [intOf]; omega
    · have hk8 : k = 8 := by omega
      subst hk8
      go_wp2_with fail
      go_loopw [7] (fun v wr => ∃ k : Nat, k ≤ 4 ∧ v = .int .i64 k ∧ Row wr g 45 .u8 (part ns (8 + k)) ∧ Row wr w.heap.size 45 .u8 (List.replicate 12 0) ∧ Below w.heap.size w wr) (fun v _ => 4 - (intOf v).toNat)
      case atStart => exact ⟨0, by omega, rfl, rk, ro, bk⟩
      case round =>
        clear rk ro bk
        obtain ⟨k, hk, rfl, rk, ro, bk⟩ := hrel
        by_cases hlt : k < 4
        · have hkn : 8 + k < ns.length := by rw [HN.out]; omega
          have hc := rk.cell (i := 8 + k) (by rw [part_length ns (by omega)]; exact hkn)
          have hf := rk.frozen (8 + k)
          have HS : ∀ W : World, W = wr → Hid (Row (W.setCell ⟨g, 8 + k, none⟩ (.int .u8 (u64 i / 2 ^ (8 * k) % 256))) g 45 .u8 (part ns (8 + k + 1))) := fun W hW => Lib.hid (by subst hW; rw [← part_set ns hkn, HHH.out k hlt]; exact rk.set (8 + k) (wf_byte (byte_range k)))
          have HS := HS _ rfl
          have hlt' : (k : Int) < 4 := by omega
          have hk0 : (0 : Int) ≤ (k : Int) := by omega
          have W1 : IntKind.i64.wrap (8 * (k : Int)) = ((8 * k : Nat) : Int) := by rw [IntKind.wrap_i64]; omega
          have W2 : IntKind.u64.wrap ((8 * k : Nat) : Int) = ((8 * k : Nat) : Int) := by rw [IntKind.wrap_u64]; omega
          have W3 : IntKind.u8.wrap (u64 i / 2 ^ (8 * k)) = u64 i / 2 ^ (8 * k) % 256 := by rw [IntKind.wrap_u8]
          have W4 := fun W => Held.run_shr (P := Tryz.prog) 23 .u64 .u64 (a := u64 i) (8 * k) (by show 8 * k ≤ 64; omega) rfl W
          have W5 : IntKind.i64.wrap (8 + (k : Int)) = ((8 + k : Nat) : Int) := by rw [IntKind.wrap_i64]; omega
          have hlt2 : ((8 + k : Nat) : Int) < 12 := by omega
          generalize u64 i / 2 ^ (8 * k) % 256 = b at W3 HS
          generalize (part ns (8 + k)).getD (8 + k) 0 = old at hc
          go_wp2_with fail
          go_roundw
          case rel => exact ⟨k + 1, by omega, by go_num, HS.out, ro.other (by simp; omega) _, bk.setCell (by simp; omega) _⟩
          case measure => simp [intOf]; omega
        · have hk4 : k = 4 := by omega
          subst hk4
          rw [show 8 + 4 = ns.length by rw [HN.out], part_all] at rk
          have HW := Lib.hid (bs_wf HB.out)
          go_wp2_with (first
            | (refine wpList_load_Row rfl 45 _ rfl g rfl 45 .u8 _ rk 12 5 Tryz.underlying45 info_12 HN.out ?_)
            | (refine wpList_store_RowTo rfl 45 _ _ rfl w.heap.size rfl 45 .u8 _ ns rfl ro 12 info_12 HN.out (by simp) HW.out ?_; intro w5 r5 g5 z5))
          have b5 : Below w.heap.size w w5 := bk.grown g5 bk.size (fun r e => by cases e; exact Nat.le_refl _)
          exact bodyPost_ret (results_Row rfl _ _ w.heap.size _ _ _ rfl r5 12 5 Tryz.underlying45 info_12 HN.out) rfl ⟨rfl, b5⟩
end Go.Proofs.YtjelacblnjbfgaaGreatDoor.Ky
namespace Go.Proofs.YtjelacblnjbfgaaGreatDoor.Mem
open Go.RowKit
end Go.Proofs.YtjelacblnjbfgaaGreatDoor.Mem
