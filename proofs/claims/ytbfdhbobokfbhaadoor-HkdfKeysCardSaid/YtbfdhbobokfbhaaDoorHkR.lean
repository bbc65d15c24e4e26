/-
  The document's own Extract, Expand and Key (package dominoref04) by their contracts. Conditions: salts, keys and what is said are at most 2^38 bytes.
-/
import Derived.Test.YtbfdhbobokfbhaaDoorHk3
import Derived.Test.YtbfdhbobokfbhaaDoorMacR
import Derived.Test.YtbfdhbobokfbhaaDoorReg
import Derived.Test.YtbfdhbobokfbhaaDoorCut
namespace Go.Proofs.YtbfdhbobokfbhaaDoor.Hkdf
open Go.RowKit Go.Shelf Go.Proofs.YtbfdhbobokfbhaaDoor.Mem Go.Proofs.YtbfdhbobokfbhaaDoor.Help Go.Proofs.YtbfdhbobokfbhaaDoor.Sum Go.Proofs.YtbfdhbobokfbhaaDoor.Sha Go.Proofs.YtbfdhbobokfbhaaDoor.Mac Go.Proofs.YtbfdhbobokfbhaaDoor
set_option linter.unusedVariables false
attribute [local irreducible] wpList Calls

set_option maxRecDepth 100000 in
set_option maxHeartbeats 1000000 in
theorem rextract_any (B B' : Nat) (A A' : Option Addr) (n c n' c' : Nat) (salt key : List Int) (w : World) (h : Ints w .u8 B A n salt) (hB : B ≤ w.heap.size) (hn : n ≤ 274877906944)
    (h' : Ints w .u8 B' A' n' key) (hB' : B' ≤ w.heap.size) (hn' : n' ≤ 274877906944) :
    Calls Tryd.prog 12 #[.slice A n c, .slice A' n' c'] w fun e w' => e = .returned (.agg (arr .u8 (tag salt key))) ∧ Below w.heap.size w w' := by
  go_enter Tryd.func12, Tryd.ntmps12
  go_wp2_with (refine wpList_alloc_Row rfl 25 rfl .u8 32 zero_32 ?_; intro w1 r1 g1 z1)
  have b1 : Below w.heap.size w w1 := (Below.refl _ w).grown g1 (Nat.le_refl _) (by simp)
  have l1 := r1.lt
  refine (rtag_any B B' A A' n c n' c' salt key w1 (h.below (b1.mono hB)) (by omega) (by omega) (h'.below (b1.mono hB')) (by omega) (by omega)).mono ?_
  rintro e w2 ⟨rfl, hb2⟩
  have b2 := b1.trans (hb2.mono b1.size)
  have r2 := r1.below hb2 l1
  clear hb2 b1 r1 g1 z1
  go_wp2_with (refine wpList_store_RowTo rfl 25 _ _ rfl w.heap.size rfl 25 .u8 _ (tag salt key) rfl r2 32 info_32 (tag_length _ _) (by simp) (tag_wf _ _) ?_; intro w3 r3 g3 z3)
  exact bodyPost_ret (results_Row rfl _ _ w.heap.size _ _ _ rfl r3 32 5 Tryd.underlying25 info_32 (tag_length _ _)) rfl ⟨rfl, b2.grown g3 b2.size (fun r e => by cases e; exact Nat.le_refl _)⟩

set_option maxRecDepth 100000 in
set_option maxHeartbeats 4000000 in
theorem rexpand_bad (key : List Int) (hkb : ∀ z ∈ key, (Lit.int .u8 z).wf = true) (A : Option Addr) (m c : Nat) (x : Int) (w : World) (hx : x < 1 ∨ 8160 < x) :
    Calls Tryd.prog 11 #[.agg (arr .u8 key), .slice A m c, .int .i64 x] w fun e w' => e = .returned (.tuple #[.slice none 0 0, .int .i64 1]) ∧ Below w.heap.size w w' := by
  by_cases h1 : x < 1
  · go_enter Tryd.func11, Tryd.ntmps11
    go_wp2_with (refine wpList_box_Row rfl 25 _ rfl .u8 key rfl hkb ?_; intro w1 r1 g1 z1)
    have b1 : Below w.heap.size w w1 := (Below.refl _ w).grown g1 (Nat.le_refl _) (by simp)
    go_ret2
    exact ⟨rfl, b1⟩
  · have h2 : 8160 < x := by omega
    go_enter Tryd.func11, Tryd.ntmps11
    go_wp2_with (refine wpList_box_Row rfl 25 _ rfl .u8 key rfl hkb ?_; intro w1 r1 g1 z1)
    have b1 : Below w.heap.size w w1 := (Below.refl _ w).grown g1 (Nat.le_refl _) (by simp)
    go_ret2
    exact ⟨rfl, b1⟩

set_option maxRecDepth 100000 in
set_option maxHeartbeats 8000000 in
theorem rexpand_any (key info : List Int) (hk : key.length = 32) (hkb : ∀ z ∈ key, (Lit.int .u8 z).wf = true) (B : Nat) (A : Option Addr) (m c n : Nat) (w : World) (hi : Ints w .u8 B A m info) (hB : B ≤ w.heap.size) (hm : m ≤ 274877906944) (hn1 : 1 ≤ n) (hn2 : n ≤ 8160) :
    Calls Tryd.prog 11 #[.agg (arr .u8 key), .slice A m c, .int .i64 (n : Int)] w fun e w' => ∃ A' c', e = .returned (.tuple #[.slice A' n c', .int .i64 0]) ∧ n ≤ c' ∧ c' ≤ maxLen ∧ Ints w' .u8 w'.heap.size A' n (out key info n) ∧ Below w.heap.size w w' := by
  have HK := Lib.hid hk
  have HM := Lib.hid hi.1
  clear hk
  have q1 : ¬ (n : Int) < 1 := by omega
  have q2 : ¬ (8160 : Int) < (n : Int) := by omega
  go_enter Tryd.func11, Tryd.ntmps11
  go_wp2_with (refine wpList_box_Row rfl 25 _ rfl .u8 key rfl hkb ?_; intro w1 r1 g1 z1)
  have b1 : Below w.heap.size w w1 := (Below.refl _ w).grown g1 (Nat.le_refl _) (by simp)
  clear g1 z1
  go_loopw [8, 9, 10] (fun u v i wr => ∃ (k q : Nat) (A8 A9 : Option Addr) (c8 n9 c9 : Nat), k ≤ 255 ∧ Hid (q = 32 * k) ∧ q < n + 32 ∧ i = .int .i64 ((k : Int) + 1) ∧ u = .slice A8 q c8 ∧ Mem.Own wr (w.heap.size + 1) 5 .u8 (.slice A8 q c8) (stream key info k) ∧
    v = .slice A9 n9 c9 ∧ n9 ≤ 32 ∧ Ints wr .u8 wr.heap.size A9 n9 (piece key info k) ∧ Row wr w.heap.size 25 .u8 key ∧ Below w.heap.size w wr) (fun _ _ i _ => 256 - (intOf i).toNat)
  case atStart => exact ⟨0, 0, none, none, 0, 0, 0, by omega, Lib.hid rfl, by omega, rfl, rfl, by rw [show stream key info 0 = [] from List.eq_nil_of_length_eq_zero (stream_length key info 0)]; exact Mem.Own.nil _ _ _ _, rfl, by omega, Ints.nil _ _ _ _, r1, b1⟩
  case round =>
    clear r1 b1
    obtain ⟨k, q, A8, A9, c8, n9, c9, hk, hq, hqn, rfl, rfl, o8, rfl, hn9, i9, rk, bk⟩ := hrel
    by_cases hlt : q < n
    · have hlt' : (q : Int) < (n : Int) := by omega
      have hk255 : k < 255 := by have := hq.out; omega
      have hk0 : (0 : Int) ≤ (k : Int) := by omega
      have HI9 := Lib.hid i9.1
      have ii := (hi.below (bk.mono hB)).more (Nat.le_trans hB bk.size)
      have kq := rk.ints (n := 32) (by rw [HK.out]; omega)
      rw [List.take_of_length_le (by rw [HK.out]; omega)] at kq
      have HX := Lib.hid (show tag key ((([] ++ piece key info k) ++ info) ++ [(k : Int) + 1]) = piece key info (k + 1) by simp [piece])
      have hw5 : IntKind.u8.wrap ((k : Int) + 1) = (k : Int) + 1 := by simp [IntKind.wrap, IntKind.bits, IntKind.signed]; omega
      have hw6 : ∀ z ∈ [(k : Int) + 1], (Lit.int .u8 z).wf = true := fun z hz => by rw [List.mem_singleton.1 hz]; exact wf_of_byte (by omega)
      have hsl := fun W g => run_slice_arr_all (P := Tryd.prog) 25 5 32 g W Tryd.underlying25 (by kernel_rfl) (by omega)
      go_wp2_with (first
        | (at_builtin; refine wpList_append_ints wr rfl _ _ 22 rfl wr.heap.size 5 .u8 1 Tryd.underlying22 info_u8 (.slice none 0 0) [] rfl (Mem.Own.nil _ _ _ _) wr.heap.size A9 n9 c9 (piece key info k) rfl i9 (by simp; omega) (by omega) (Nat.le_refl _) ?_; intro v2 w2 o2 g2 t2; obtain ⟨A2, c2, rfl, h2a, h2b, j2⟩ := o2.form; obtain ⟨n2, hn2⟩ : ∃ n2, ([] ++ piece key info k).length = n2 := ⟨_, rfl⟩; rw [hn2] at o2 j2 h2a ⊢; have HN2 := Lib.hid hn2; clear hn2)
        | (at_builtin; refine wpList_append_ints w2 rfl _ _ 22 rfl wr.heap.size 5 .u8 1 Tryd.underlying22 info_u8 (.slice A2 n2 c2) ([] ++ piece key info k) rfl o2 wr.heap.size A m c info rfl (ii.keep fun p hp => World.cell?_of_block (g2.block _ hp (by simp [Value.ownBlock]))) (by rw [HN2.out]; have := HN2.out; rw [List.nil_append, HI9.out] at this; omega) (by omega) g2.size ?_; intro v3 w3 o3 g3 t3; obtain ⟨A3, c3, rfl, h3a, h3b, j3⟩ := o3.form; obtain ⟨n3, hn3⟩ : ∃ n3, (([] ++ piece key info k) ++ info).length = n3 := ⟨_, rfl⟩; rw [hn3] at o3 j3 h3a ⊢; have HN3 := Lib.hid hn3; clear hn3)
        | (refine Held.wpList_build_row (w := w3) rfl 22 5 1 _ rfl .u8 1 [(k : Int) + 1] Tryd.underlying22 info_u8 (by simp [Act.eval]) rfl (by omega) (by omega) hw6 ?_; intro w4 r4 g4 z4; have o34 := o3.kept g4 (by cases (Value.slice A3 n3 c3).ownBlock <;> simp))
        | (at_builtin; refine wpList_append_ints w4 rfl _ _ 22 rfl wr.heap.size 5 .u8 1 Tryd.underlying22 info_u8 (.slice A3 n3 c3) (([] ++ piece key info k) ++ info) rfl o34 w4.heap.size (some ⟨w3.heap.size, 0, none⟩) 1 1 [(k : Int) + 1] rfl (by have := r4.ints (n := 1) (by simp); simpa using this) (by rw [HN3.out]; have := HN3.out; rw [List.length_append, List.nil_append, HI9.out, HM.out] at this; omega) (by omega) (by have := g2.size; have := g3.size; have := g4.size; omega) ?_; intro v5 w5 o5 g5 t5; obtain ⟨A5, c5, rfl, h5a, h5b, j5⟩ := o5.form; obtain ⟨n5, hn5⟩ : ∃ n5, ((([] ++ piece key info k) ++ info) ++ [(k : Int) + 1]).length = n5 := ⟨_, rfl⟩; rw [hn5] at o5 j5 h5a ⊢; have HN5 := Lib.hid hn5; clear hn5))
      have s2 := g2.size
      have s3 := g3.size
      have s4 := g4.size
      have s5 := g5.size
      have d5 : Below wr.heap.size wr w5 := ((((Below.refl _ wr).grown g2 (Nat.le_refl _) (by simp [Value.ownBlock])).grown g3 s2 (fun r e => (o2.2.lt r e).1)).grown g4 (by omega) (by simp)).grown g5 (by omega) (fun r e => (o34.2.lt r e).1)
      have hn5 : n5 ≤ 549755813888 := by have h1 := HN5.out; have h2 := HN3.out; have h3 := HN2.out; rw [List.length_append, h2] at h1; rw [List.length_append, h3, HM.out] at h2; rw [List.nil_append, HI9.out] at h3; simp at h1; omega
      clear g2 g3 g4 g5 t2 t3 t5 o2 o3 o34 o5 r4 z4 j2 j3 h2a h2b h3a h3b h5a h5b s2 s3 s4
      refine (rtag_any _ _ _ A5 32 32 n5 c5 key _ w5 (kq.below d5) d5.size (by omega) j5 (Nat.le_refl _) hn5).mono ?_
      rw [HX.out]
      rintro e w6 ⟨rfl, b6⟩
      have c6 := d5.trans (b6.mono d5.size)
      have HPL := Lib.hid (piece_length key info k)
      have HPW := Lib.hid (piece_wf key info (k + 1))
      have s6 := c6.size
      have lk := rk.lt
      clear d5 b6 j5 HX HN2 HN3 HN5 hn5 s5 ii kq
      go_wp2_with (first
        | (refine wpList_alloc_Row (w := w6) rfl 25 rfl .u8 32 zero_32 ?_; intro w7 r7 g7 z7)
        | (refine wpList_store_RowTo (w := w7) rfl 25 _ _ rfl w6.heap.size rfl 25 .u8 _ (piece key info (k + 1)) rfl r7 32 info_32 HPL.out (by simp) HPW.out ?_; intro w8 r8 g8 z8; have i8 := r8.ints (n := 32) (by rw [HPL.out]; omega); rw [List.take_of_length_le (by rw [HPL.out]; omega)] at i8)
        | (at_builtin; refine wpList_append_ints w8 rfl _ _ 22 rfl w8.heap.size 5 .u8 1 Tryd.underlying22 info_u8 (.slice none 0 0) [] rfl (Mem.Own.nil _ _ _ _) w8.heap.size (some ⟨w6.heap.size, 0, none⟩) 32 32 (piece key info (k + 1)) rfl i8 (by simp) (by omega) (Nat.le_refl _) ?_; intro v9 w9 o9 g9 t9; obtain ⟨A9', c9', rfl, h9a, h9b, j9⟩ := o9.form; obtain ⟨n9', hn9'⟩ : ∃ n9', ([] ++ piece key info (k + 1)).length = n9' := ⟨_, rfl⟩; rw [hn9'] at o9 j9 h9a ⊢; have HN9 := Lib.hid hn9'; clear hn9'; have d9 : Below wr.heap.size wr w9 := ((c6.grown g7 s6 (by simp)).grown g8 (by have := g7.size; omega) (fun r e => by cases e; exact s6)).grown g9 (by have := g7.size; have := g8.size; omega) (by simp [Value.ownBlock]))
        | (at_builtin; refine wpList_append_ints w9 rfl _ _ 22 rfl (w.heap.size + 1) 5 .u8 1 Tryd.underlying22 info_u8 (.slice A8 q c8) (stream key info k) rfl (o8.below d9) w9.heap.size A9' n9' c9' ([] ++ piece key info (k + 1)) rfl j9 (by rw [stream_length]; have := HN9.out; rw [List.nil_append, HPL.out] at this; omega) (by omega) (by have := d9.size; omega) ?_; intro v10 w10 o10 g10 t10; obtain ⟨A10, c10, rfl, h10a, h10b, j10⟩ := o10.form; obtain ⟨n10, hn10⟩ : ∃ n10, (stream key info k ++ ([] ++ piece key info (k + 1))).length = n10 := ⟨_, rfl⟩; rw [hn10] at o10 j10 h10a ⊢; have HN10 := Lib.hid hn10; clear hn10))
      have hn10 : n10 = 32 * (k + 1) := by have := HN10.out; rw [List.length_append, stream_length, List.nil_append, HPL.out] at this; omega
      have hn9' : n9' = 32 := by have := HN9.out; rw [List.nil_append, HPL.out] at this; omega
      have s78 : wr.heap.size ≤ w8.heap.size := by have := g7.size; have := g8.size; omega
      have o9k := o9.kept g10 (by
        cases hb : (Value.slice A9' n9' c9').ownBlock with
        | none => exact .inl rfl
        | some r => exact .inr (fun e => by
            have h1 := (o9.2.lt r hb).1
            have h2 := (o8.2.lt r e.symm).2
            omega))
      have iL := o9k.ints HN9.out
      rw [List.nil_append] at iL
      rw [List.nil_append, ← stream_succ] at o10
      have rE := (rk.below d9 rk.lt).grown g10 (fun e => by have := (o8.2.lt _ e.symm).1; omega)
      have bE := (bk.trans (d9.mono bk.size)).grown g10 (by have := bk.size; have := d9.size; omega) (fun r e => by have := (o8.2.lt r e).1; omega)
      clear g7 g8 g9 g10 z7 z8 t9 t10 o9 o9k j9 j10 o8 d9 c6 r7 r8 i8 rk bk i9
      go_roundw
      case rel => exact ⟨k + 1, n10, A10, A9', c10, n9', c9', by omega, Lib.hid hn10, by have := hq.out; omega, by go_num, rfl, o10, rfl, by omega, iL, rE, bE⟩
      case measure => simp [intOf]; omega
    · have hlt' : ¬ (q : Int) < (n : Int) := by omega
      have hqc : q ≤ c8 ∧ c8 ≤ maxLen := by
        obtain ⟨A', c', e, h1, h2, _⟩ := o8.form
        injection e with e1 e2 e3
        omega
      have hfr := fun W => run_front (P := Tryd.prog) (t := 22) (e := 5) (n := q) Tryd.underlying22 (by kernel_rfl) o8.flat (h := n) (by omega) W
      have i8 := (o8.ints (by rw [stream_length, hq.out])).front (h := n) (by omega)
      rw [← out_whole key info k hk, out_take _ _ _ _ (by have := hq.out; omega)] at i8
      go_wp2_with fail
      go_ret2
      exact ⟨A8, c8, rfl, by omega, hqc.2, i8, bk⟩
/-- the document's Expand to 32 bytes -/
theorem rexpand_32 (key info : List Int) (hk : key.length = 32) (hkb : ∀ z ∈ key, (Lit.int .u8 z).wf = true) (B : Nat) (A : Option Addr) (m c : Nat) (w : World) (hi : Ints w .u8 B A m info) (hB : B ≤ w.heap.size) (hm : m ≤ 274877906944) :
    Calls Tryd.prog 11 #[.agg (arr .u8 key), .slice A m c, .int .i64 32] w fun e w' => ∃ A' c', e = .returned (.tuple #[.slice A' 32 c', .int .i64 0]) ∧ 32 ≤ c' ∧ c' ≤ maxLen ∧ Ints w' .u8 w'.heap.size A' 32 (out key info 32) ∧ Below w.heap.size w w' :=
  rexpand_any key info hk hkb B A m c 32 w hi hB hm (by omega) (by omega)
theorem fill_of_row {w : World} {g : Nat} {t : TypeId} {k : IntKind} {zs : List Int} {L : List Value} (h : Row w g t k zs) : Fill w g t zs.length L 0 := ⟨_, h.2, by simp, by simp⟩

set_option maxRecDepth 100000 in
set_option maxHeartbeats 4000000 in
theorem rkey_any (B B' B2 : Nat) (A A' A2 : Option Addr) (n c n' c' m c2 : Nat) (salt key info : List Int) (w : World) (h : Ints w .u8 B A n salt) (hB : B ≤ w.heap.size) (hn : n ≤ 274877906944)
    (h' : Ints w .u8 B' A' n' key) (hB' : B' ≤ w.heap.size) (hn' : n' ≤ 274877906944) (h2 : Ints w .u8 B2 A2 m info) (hB2 : B2 ≤ w.heap.size) (hm : m ≤ 274877906944) :
    Calls Tryd.prog 15 #[.slice A n c, .slice A' n' c', .slice A2 m c2] w fun e w' => e = .returned (.agg (arr .u8 (hkey salt key info))) ∧ Below w.heap.size w w' := by
  go_enter Tryd.func15, Tryd.ntmps15
  go_wp2_with (refine wpList_alloc_Row (w := w) rfl 25 rfl .u8 32 zero_32 ?_; intro w1 r1 g1 z1)
  have b1 : Below w.heap.size w w1 := (Below.refl _ w).grown g1 (Nat.le_refl _) (by simp)
  have s1 := b1.size
  refine (rextract_any B B' A A' n c n' c' salt key w1 (h.below (b1.mono hB)) (by omega) hn (h'.below (b1.mono hB')) (by omega) hn').mono ?_
  rintro e w2 ⟨rfl, hb⟩
  have b2 := b1.trans (hb.mono s1)
  have r2 := r1.below hb r1.lt
  have s2 := b2.size
  clear hb b1 r1 g1 z1 s1
  go_wp2_with fail
  refine (rexpand_32 (tag salt key) info (tag_length _ _) (tag_wf _ _) B2 A2 m c2 w2 (h2.below (b2.mono hB2)) (by omega) hm).mono ?_
  rintro e w3 ⟨A3, c3, rfl, h3a, h3b, i3, hb⟩
  have b3 := b2.trans (hb.mono s2)
  have r3 := r2.below hb r2.lt
  have s3 := b3.size
  rw [← hkey_def] at i3
  obtain ⟨ks, hks⟩ : ∃ ks, hkey salt key info = ks := ⟨_, rfl⟩
  have hkl : ks.length = 32 := by rw [← hks]; exact hkey_length _ _ _
  have hkw : ∀ z ∈ ks, (Lit.int .u8 z).wf = true := by rw [← hks]; exact hkey_wf _ _ _
  rw [hks] at i3
  have HKS := Lib.hid hks
  have HKL := Lib.hid hkl
  have HKW := Lib.hid hkw
  clear hks hkl hkw hb b2 r2 s2
  have l3 := r3.lt
  go_wp2_with (refine wpList_alloc_Row (w := w3) rfl 25 rfl .u8 32 zero_32 ?_; intro w4 r4 g4 z4)
  obtain ⟨g, hg⟩ : ∃ g, w3.heap.size = g := ⟨_, rfl⟩
  rw [hg] at r4 l3 i3 ⊢
  have b4 : Below w.heap.size w w4 := b3.grown g4 s3 (by simp)
  have i4 : Ints w4 .u8 g A3 32 ks := i3.keep fun p hp => World.cell?_of_block (g4.block _ (by omega) (by simp))
  have r34 := r3.grown g4 (by simp)
  have f4 : Fill w4 g 25 32 (ks.map (Value.int .u8)) 0 := by simpa using fill_of_row (L := ks.map (Value.int .u8)) r4
  clear g4 z4 hg b3 i3 r3 r4 s3
  go_loopw [10] (fun i wr => ∃ k : Nat, k ≤ 32 ∧ i = .int .i64 k ∧ Fill wr g 25 32 (ks.map (Value.int .u8)) k ∧ Ints wr .u8 g A3 32 ks ∧ Row wr w.heap.size 25 .u8 (List.replicate 32 0) ∧ Below w.heap.size w wr) (fun i _ => 32 - (intOf i).toNat)
  case atStart => exact ⟨0, by omega, rfl, f4, i4, r34, b4⟩
  case round =>
    clear f4 i4 r34 b4
    obtain ⟨k, hk, rfl, fk, ik, rk, bk⟩ := hrel
    by_cases hlt : k < 32
    · obtain ⟨b, off, rfl, hbl, hc⟩ := ik.at_ hlt
      obtain ⟨u, hu⟩ := fk.cell hlt
      have hfr := fk.frozen k
      have HS := Lib.hid (fk.step (u := .int .u8 (ks.getD k 0)) (by rw [List.getElem?_map, List.getElem?_eq_getElem (by rw [HKL.out]; exact hlt), List.getD_eq_getElem?_getD, List.getElem?_eq_getElem (by rw [HKL.out]; exact hlt)]; rfl) hlt)
      have hlt' : (k : Int) < 32 := by omega
      have hk0 : (0 : Int) ≤ (k : Int) := by omega
      generalize ks.getD k 0 = z at hc HS
      go_wp2_with fail
      go_roundw
      case rel => exact ⟨k + 1, by omega, by go_num, HS.out, ik.setCell (by simp) _, rk.other (by simpa using (by omega : g ≠ w.heap.size)) _, bk.setCell (by simpa using (by omega : w.heap.size ≤ g)) _⟩
      case measure => simp [intOf]; omega
    · have hk32 : k = 32 := by omega
      subst hk32
      have rg : Row wr g 25 .u8 ks := ⟨HKW.out, fk.done (Nat.le_refl _) (by rw [List.length_map, HKL.out])⟩
      clear fk ik
      go_wp2_with (first
        | (refine wpList_load_Row (w := wr) rfl 25 _ rfl g rfl 25 .u8 _ rg 32 5 Tryd.underlying25 info_32 HKL.out ?_)
        | (refine wpList_store_RowTo (w := wr) rfl 25 _ _ rfl w.heap.size rfl 25 .u8 _ ks rfl rk 32 info_32 HKL.out (by simp) HKW.out ?_; intro w6 r6 g6 z6))
      exact bodyPost_ret (results_Row rfl _ _ w.heap.size _ _ _ rfl r6 32 5 Tryd.underlying25 info_32 HKL.out) rfl ⟨by rw [HKS.out], bk.grown g6 bk.size (fun r e => by cases e; exact Nat.le_refl _)⟩
end Go.Proofs.YtbfdhbobokfbhaaDoor.Hkdf

