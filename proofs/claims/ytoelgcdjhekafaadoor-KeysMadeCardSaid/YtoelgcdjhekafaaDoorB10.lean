/-
  The document's own Extract, Expand and Key (package dominoref04) by their contracts. Conditions: salts, keys and what is said are at most 2^38 bytes.
  Numbers of the call's own whose row may bear a mark behind its cells (what a text is turned into): one number appended. No program here. No conditions beyond those stated.
  Numbers as texts: dominohelp's Digits and Number by their contracts. No conditions beyond those stated.
-/
import Derived.Test.YtoelgcdjhekafaaDoorB7
import Derived.Test.YtoelgcdjhekafaaDoorB9
import Derived.Test.YtoelgcdjhekafaaDoorB1
import Derived.Lib.ConvBytes
import Derived.Lib.ItoaMem
namespace Go.Proofs.YtoelgcdjhekafaaDoor.Hkdf
open Go.RowKit Go.Shelf Go.Proofs.YtoelgcdjhekafaaDoor.Mem Go.Proofs.YtoelgcdjhekafaaDoor.Help Go.Proofs.YtoelgcdjhekafaaDoor.Sum Go.Proofs.YtoelgcdjhekafaaDoor.Sha Go.Proofs.YtoelgcdjhekafaaDoor.Mac Go.Proofs.YtoelgcdjhekafaaDoor
set_option linter.unusedVariables false
attribute [local irreducible] wpList Calls

set_option maxRecDepth 100000 in
set_option maxHeartbeats 1000000 in
theorem rextract_any (B B' : Nat) (A A' : Option Addr) (n c n' c' : Nat) (salt key : List Int) (w : World) (h : Ints w .u8 B A n salt) (hB : B ≤ w.heap.size) (hn : n ≤ 274877906944)
    (h' : Ints w .u8 B' A' n' key) (hB' : B' ≤ w.heap.size) (hn' : n' ≤ 274877906944) :
    Calls Tryd.prog 35 #[.slice A n c, .slice A' n' c'] w fun e w' => e = .returned (.agg (arr .u8 (tag salt key))) ∧ Below w.heap.size w w' := by
  go_enter Tryd.func35, Tryd.ntmps35
  go_wp2_with (refine wpList_alloc_Row rfl 22 rfl .u8 32 zero_32 ?_; intro w1 r1 g1 z1)
  have b1 : Below w.heap.size w w1 := (Below.refl _ w).grown g1 (Nat.le_refl _) (by simp)
  have l1 := r1.lt
  refine (rtag_any B B' A A' n c n' c' salt key w1 (h.below (b1.mono hB)) (by omega) (by omega) (h'.below (b1.mono hB')) (by omega) (by omega)).mono ?_
  rintro e w2 ⟨rfl, hb2⟩
  have b2 := b1.trans (hb2.mono b1.size)
  have r2 := r1.below hb2 l1
  clear hb2 b1 r1 g1 z1
  go_wp2_with (refine wpList_store_RowTo rfl 22 _ _ rfl w.heap.size rfl 22 .u8 _ (tag salt key) rfl r2 32 info_32 (tag_length _ _) (by simp) (tag_wf _ _) ?_; intro w3 r3 g3 z3)
  exact bodyPost_ret (results_Row rfl _ _ w.heap.size _ _ _ rfl r3 32 5 Tryd.underlying22 info_32 (tag_length _ _)) rfl ⟨rfl, b2.grown g3 b2.size (fun r e => by cases e; exact Nat.le_refl _)⟩

set_option maxRecDepth 100000 in
set_option maxHeartbeats 4000000 in
theorem rexpand_bad (key : List Int) (hkb : ∀ z ∈ key, (Lit.int .u8 z).wf = true) (A : Option Addr) (m c : Nat) (x : Int) (w : World) (hx : x < 1 ∨ 8160 < x) :
    Calls Tryd.prog 34 #[.agg (arr .u8 key), .slice A m c, .int .i64 x] w fun e w' => e = .returned (.tuple #[.slice none 0 0, .int .i64 1]) ∧ Below w.heap.size w w' := by
  by_cases h1 : x < 1
  · go_enter Tryd.func34, Tryd.ntmps34
    go_wp2_with (refine wpList_box_Row rfl 22 _ rfl .u8 key rfl hkb ?_; intro w1 r1 g1 z1)
    have b1 : Below w.heap.size w w1 := (Below.refl _ w).grown g1 (Nat.le_refl _) (by simp)
    go_ret2
    exact ⟨rfl, b1⟩
  · have h2 : 8160 < x := by omega
    go_enter Tryd.func34, Tryd.ntmps34
    go_wp2_with (refine wpList_box_Row rfl 22 _ rfl .u8 key rfl hkb ?_; intro w1 r1 g1 z1)
    have b1 : Below w.heap.size w w1 := (Below.refl _ w).grown g1 (Nat.le_refl _) (by simp)
    go_ret2
    exact ⟨rfl, b1⟩

set_option maxRecDepth 100000 in
set_option maxHeartbeats 8000000 in
theorem rexpand_any (key info : List Int) (hk : key.length = 32) (hkb : ∀ z ∈ key, (Lit.int .u8 z).wf = true) (B : Nat) (A : Option Addr) (m c n : Nat) (w : World) (hi : Ints w .u8 B A m info) (hB : B ≤ w.heap.size) (hm : m ≤ 274877906944) (hn1 : 1 ≤ n) (hn2 : n ≤ 8160) :
    Calls Tryd.prog 34 #[.agg (arr .u8 key), .slice A m c, .int .i64 (n : Int)] w fun e w' => ∃ A' c', e = .returned (.tuple #[.slice A' n c', .int .i64 0]) ∧ n ≤ c' ∧ c' ≤ maxLen ∧ Ints w' .u8 w'.heap.size A' n (out key info n) ∧ Below w.heap.size w w' := by
  have HK := Lib.hid hk
  have HM := Lib.hid hi.1
  clear hk
  have q1 : ¬ (n : Int) < 1 := by omega
  have q2 : ¬ (8160 : Int) < (n : Int) := by omega
  go_enter Tryd.func34, Tryd.ntmps34
  go_wp2_with (refine wpList_box_Row rfl 22 _ rfl .u8 key rfl hkb ?_; intro w1 r1 g1 z1)
  have b1 : Below w.heap.size w w1 := (Below.refl _ w).grown g1 (Nat.le_refl _) (by simp)
  clear g1 z1
  go_loopw [8, 9, 10] (fun u v i wr => ∃ (k q : Nat) (A8 A9 : Option Addr) (c8 n9 c9 : Nat), k ≤ 255 ∧ Hid (q = 32 * k) ∧ q < n + 32 ∧ i = .int .i64 ((k : Int) + 1) ∧ u = .slice A8 q c8 ∧ Mem.Own wr (w.heap.size + 1) 5 .u8 (.slice A8 q c8) (stream key info k) ∧
    v = .slice A9 n9 c9 ∧ n9 ≤ 32 ∧ Ints wr .u8 wr.heap.size A9 n9 (piece key info k) ∧ Row wr w.heap.size 22 .u8 key ∧ Below w.heap.size w wr) (fun _ _ i _ => 256 - (intOf i).toNat)
  case atStart => exact ⟨0, 0, none, none, 0, 0, 0, by omega, Lib.hid rfl, by omega, rfl, rfl, by rw [show stream key info 0 = [] from List.eq_nil_of_length_eq_zero (stream_length key info 0)]; exact Mem.Own.nil _ _ _ _, rfl, by omega, Ints.nil _ _ _ _, r1, b1⟩
  case round =>
    clear r1 b1
    obtain ⟨k, q, A8, A9, c8, n9, c9, hk, hq, hqn, rfl, rfl, o8, rfl, hn9, i9, rk, bk⟩ := hrel
    by_cases hlt : q < n
    · have hlt' : (q : Int) < (n : Int) := by omega
      have hk255 : k < 255 := by have := hq.out; omega
      have hk0 : (0 : Int) ≤ (k : Int) := by omega
      have HI9 := Lib.hid i9.1
      have ii := (hi.below (bk.mono hB)).more (Nat.le_trans hB bk.size)
      have kq := rk.ints (n := 32) (by rw [HK.out]; omega)
      rw [List.take_of_length_le (by rw [HK.out]; omega)] at kq
      have HX := Lib.hid (show tag key ((([] ++ piece key info k) ++ info) ++ [(k : Int) + 1]) = piece key info (k + 1) by simp [piece])
      have hw5 : IntKind.u8.wrap ((k : Int) + 1) = (k : Int) + 1 := by simp [IntKind.wrap, IntKind.bits, IntKind.signed]; omega
      have hw6 : ∀ z ∈ [(k : Int) + 1], (Lit.int .u8 z).wf = true := fun z hz => by rw [List.mem_singleton.1 hz]; exact wf_of_byte (by omega)
      have hsl := fun W g => run_slice_arr_all (P := Tryd.prog) 22 5 32 g W Tryd.underlying22 (by kernel_rfl) (by omega)
      go_wp2_with (first
        | (at_builtin; refine wpList_append_ints wr rfl _ _ 34 rfl wr.heap.size 5 .u8 1 Tryd.underlying34 info_u8 (.slice none 0 0) [] rfl (Mem.Own.nil _ _ _ _) wr.heap.size A9 n9 c9 (piece key info k) rfl i9 (by simp; omega) (by omega) (Nat.le_refl _) ?_; intro v2 w2 o2 g2 t2; obtain ⟨A2, c2, rfl, h2a, h2b, j2⟩ := o2.form; obtain ⟨n2, hn2⟩ : ∃ n2, ([] ++ piece key info k).length = n2 := ⟨_, rfl⟩; rw [hn2] at o2 j2 h2a ⊢; have HN2 := Lib.hid hn2; clear hn2)
        | (at_builtin; refine wpList_append_ints w2 rfl _ _ 34 rfl wr.heap.size 5 .u8 1 Tryd.underlying34 info_u8 (.slice A2 n2 c2) ([] ++ piece key info k) rfl o2 wr.heap.size A m c info rfl (ii.keep fun p hp => World.cell?_of_block (g2.block _ hp (by simp [Value.ownBlock]))) (by rw [HN2.out]; have := HN2.out; rw [List.nil_append, HI9.out] at this; omega) (by omega) g2.size ?_; intro v3 w3 o3 g3 t3; obtain ⟨A3, c3, rfl, h3a, h3b, j3⟩ := o3.form; obtain ⟨n3, hn3⟩ : ∃ n3, (([] ++ piece key info k) ++ info).length = n3 := ⟨_, rfl⟩; rw [hn3] at o3 j3 h3a ⊢; have HN3 := Lib.hid hn3; clear hn3)
        | (refine Held.wpList_build_row (w := w3) rfl 34 5 1 _ rfl .u8 1 [(k : Int) + 1] Tryd.underlying34 info_u8 (by simp [Act.eval]) rfl (by omega) (by omega) hw6 ?_; intro w4 r4 g4 z4; have o34 := o3.kept g4 (by cases (Value.slice A3 n3 c3).ownBlock <;> simp))
        | (at_builtin; refine wpList_append_ints w4 rfl _ _ 34 rfl wr.heap.size 5 .u8 1 Tryd.underlying34 info_u8 (.slice A3 n3 c3) (([] ++ piece key info k) ++ info) rfl o34 w4.heap.size (some ⟨w3.heap.size, 0, none⟩) 1 1 [(k : Int) + 1] rfl (by have := r4.ints (n := 1) (by simp); simpa using this) (by rw [HN3.out]; have := HN3.out; rw [List.length_append, List.nil_append, HI9.out, HM.out] at this; omega) (by omega) (by have := g2.size; have := g3.size; have := g4.size; omega) ?_; intro v5 w5 o5 g5 t5; obtain ⟨A5, c5, rfl, h5a, h5b, j5⟩ := o5.form; obtain ⟨n5, hn5⟩ : ∃ n5, ((([] ++ piece key info k) ++ info) ++ [(k : Int) + 1]).length = n5 := ⟨_, rfl⟩; rw [hn5] at o5 j5 h5a ⊢; have HN5 := Lib.hid hn5; clear hn5))
      have s2 := g2.size
      have s3 := g3.size
      have s4 := g4.size
      have s5 := g5.size
      have d5 : Below wr.heap.size wr w5 := ((((Below.refl _ wr).grown g2 (Nat.le_refl _) (by simp [Value.ownBlock])).grown g3 s2 (fun r e => (o2.2.lt r e).1)).grown g4 (by omega) (by simp)).grown g5 (by omega) (fun r e => (o34.2.lt r e).1)
      have hn5 : n5 ≤ 549755813888 := by have h1 := HN5.out; have h2 := HN3.out; have h3 := HN2.out; rw [List.length_append, h2] at h1; rw [List.length_append, h3, HM.out] at h2; rw [List.nil_append, HI9.out] at h3; simp at h1; omega
      clear g2 g3 g4 g5 t2 t3 t5 o2 o3 o34 o5 r4 z4 j2 j3 h2a h2b h3a h3b h5a h5b s2 s3 s4
      refine (rtag_any _ _ _ A5 32 32 n5 c5 key _ w5 (kq.below d5) d5.size (by omega) j5 (Nat.le_refl _) hn5).mono ?_
      rw [HX.out]
      rintro e w6 ⟨rfl, b6⟩
      have c6 := d5.trans (b6.mono d5.size)
      have HPL := Lib.hid (piece_length key info k)
      have HPW := Lib.hid (piece_wf key info (k + 1))
      have s6 := c6.size
      have lk := rk.lt
      clear d5 b6 j5 HX HN2 HN3 HN5 hn5 s5 ii kq
      go_wp2_with (first
        | (refine wpList_alloc_Row (w := w6) rfl 22 rfl .u8 32 zero_32 ?_; intro w7 r7 g7 z7)
        | (refine wpList_store_RowTo (w := w7) rfl 22 _ _ rfl w6.heap.size rfl 22 .u8 _ (piece key info (k + 1)) rfl r7 32 info_32 HPL.out (by simp) HPW.out ?_; intro w8 r8 g8 z8; have i8 := r8.ints (n := 32) (by rw [HPL.out]; omega); rw [List.take_of_length_le (by rw [HPL.out]; omega)] at i8)
        | (at_builtin; refine wpList_append_ints w8 rfl _ _ 34 rfl w8.heap.size 5 .u8 1 Tryd.underlying34 info_u8 (.slice none 0 0) [] rfl (Mem.Own.nil _ _ _ _) w8.heap.size (some ⟨w6.heap.size, 0, none⟩) 32 32 (piece key info (k + 1)) rfl i8 (by simp) (by omega) (Nat.le_refl _) ?_; intro v9 w9 o9 g9 t9; obtain ⟨A9', c9', rfl, h9a, h9b, j9⟩ := o9.form; obtain ⟨n9', hn9'⟩ : ∃ n9', ([] ++ piece key info (k + 1)).length = n9' := ⟨_, rfl⟩; rw [hn9'] at o9 j9 h9a ⊢; have HN9 := Lib.hid hn9'; clear hn9'; have d9 : Below wr.heap.size wr w9 := ((c6.grown g7 s6 (by simp)).grown g8 (by have := g7.size; omega) (fun r e => by cases e; exact s6)).grown g9 (by have := g7.size; have := g8.size; omega) (by simp [Value.ownBlock]))
        | (at_builtin; refine wpList_append_ints w9 rfl _ _ 34 rfl (w.heap.size + 1) 5 .u8 1 Tryd.underlying34 info_u8 (.slice A8 q c8) (stream key info k) rfl (o8.below d9) w9.heap.size A9' n9' c9' ([] ++ piece key info (k + 1)) rfl j9 (by rw [stream_length]; have := HN9.out; rw [List.nil_append, HPL.out] at this; omega) (by omega) (by have := d9.size; omega) ?_; intro v10 w10 o10 g10 t10; obtain ⟨A10, c10, rfl, h10a, h10b, j10⟩ := o10.form; obtain ⟨n10, hn10⟩ : ∃ n10, (stream key info k ++ ([] ++ piece key info (k + 1))).length = n10 := ⟨_, rfl⟩; rw [hn10] at o10 j10 h10a ⊢; have HN10 := Lib.hid hn10; clear hn10))
      have hn10 : n10 = 32 * (k + 1) := by have := HN10.out; rw [List.length_append, stream_length, List.nil_append, HPL.out] at this; omega
      have hn9' : n9' = 32 := by have := HN9.out; rw [List.nil_append, HPL.out] at this; omega
      have s78 : wr.heap.size ≤ w8.heap.size := by have := g7.size; have := g8.size; omega
      have o9k := o9.kept g10 (by
        cases hb : (Value.slice A9' n9' c9').ownBlock with
        | none => exact .inl rfl
        | some r => exact .inr (fun e => by
            have h1 := (o9.2.lt r hb).1
            have h2 := (o8.2.lt r e.symm).2
            omega))
      have iL := o9k.ints HN9.out
      rw [List.nil_append] at iL
      rw [List.nil_append, ← stream_succ] at o10
      have rE := (rk.below d9 rk.lt).grown g10 (fun e => by have := (o8.2.lt _ e.symm).1; omega)
      have bE := (bk.trans (d9.mono bk.size)).grown g10 (by have := bk.size; have := d9.size; omega) (fun r e => by have := (o8.2.lt r e).1; omega)
      clear g7 g8 g9 g10 z7 z8 t9 t10 o9 o9k j9 j10 o8 d9 c6 r7 r8 i8 rk bk i9
      go_roundw
      case rel => exact ⟨k + 1, n10, A10, A9', c10, n9', c9', by omega, Lib.hid hn10, by have := hq.out; omega, by go_num, rfl, o10, rfl, by omega, iL, rE, bE⟩
      case measure => simp [intOf]; omega
    · have hlt' : ¬ (q : Int) < (n : Int) := by omega
      have hqc : q ≤ c8 ∧ c8 ≤ maxLen := by
        obtain ⟨A', c', e, h1, h2, _⟩ := o8.form
        injection e with e1 e2 e3
        omega
      have hfr := fun W => run_front (P := Tryd.prog) (t := 34) (e := 5) (n := q) Tryd.underlying34 (by kernel_rfl) o8.flat (h := n) (by omega) W
      have i8 := (o8.ints (by rw [stream_length, hq.out])).front (h := n) (by omega)
      rw [← out_whole key info k hk, out_take _ _ _ _ (by have := hq.out; omega)] at i8
      go_wp2_with fail
      go_ret2
      exact ⟨A8, c8, rfl, by omega, hqc.2, i8, bk⟩
/-- the document's Expand to 32 bytes -/
theorem rexpand_32 (key info : List Int) (hk : key.length = 32) (hkb : ∀ z ∈ key, (Lit.int .u8 z).wf = true) (B : Nat) (A : Option Addr) (m c : Nat) (w : World) (hi : Ints w .u8 B A m info) (hB : B ≤ w.heap.size) (hm : m ≤ 274877906944) :
    Calls Tryd.prog 34 #[.agg (arr .u8 key), .slice A m c, .int .i64 32] w fun e w' => ∃ A' c', e = .returned (.tuple #[.slice A' 32 c', .int .i64 0]) ∧ 32 ≤ c' ∧ c' ≤ maxLen ∧ Ints w' .u8 w'.heap.size A' 32 (out key info 32) ∧ Below w.heap.size w w' :=
  rexpand_any key info hk hkb B A m c 32 w hi hB hm (by omega) (by omega)
theorem fill_of_row {w : World} {g : Nat} {t : TypeId} {k : IntKind} {zs : List Int} {L : List Value} (h : Row w g t k zs) : Fill w g t zs.length L 0 := ⟨_, h.2, by simp, by simp⟩

set_option maxRecDepth 100000 in
set_option maxHeartbeats 4000000 in
theorem rkey_any (B B' B2 : Nat) (A A' A2 : Option Addr) (n c n' c' m c2 : Nat) (salt key info : List Int) (w : World) (h : Ints w .u8 B A n salt) (hB : B ≤ w.heap.size) (hn : n ≤ 274877906944)
    (h' : Ints w .u8 B' A' n' key) (hB' : B' ≤ w.heap.size) (hn' : n' ≤ 274877906944) (h2 : Ints w .u8 B2 A2 m info) (hB2 : B2 ≤ w.heap.size) (hm : m ≤ 274877906944) :
    Calls Tryd.prog 23 #[.slice A n c, .slice A' n' c', .slice A2 m c2] w fun e w' => e = .returned (.agg (arr .u8 (hkey salt key info))) ∧ Below w.heap.size w w' := by
  go_enter Tryd.func23, Tryd.ntmps23
  go_wp2_with (refine wpList_alloc_Row (w := w) rfl 22 rfl .u8 32 zero_32 ?_; intro w1 r1 g1 z1)
  have b1 : Below w.heap.size w w1 := (Below.refl _ w).grown g1 (Nat.le_refl _) (by simp)
  have s1 := b1.size
  refine (rextract_any B B' A A' n c n' c' salt key w1 (h.below (b1.mono hB)) (by omega) hn (h'.below (b1.mono hB')) (by omega) hn').mono ?_
  rintro e w2 ⟨rfl, hb⟩
  have b2 := b1.trans (hb.mono s1)
  have r2 := r1.below hb r1.lt
  have s2 := b2.size
  clear hb b1 r1 g1 z1 s1
  go_wp2_with fail
  refine (rexpand_32 (tag salt key) info (tag_length _ _) (tag_wf _ _) B2 A2 m c2 w2 (h2.below (b2.mono hB2)) (by omega) hm).mono ?_
  rintro e w3 ⟨A3, c3, rfl, h3a, h3b, i3, hb⟩
  have b3 := b2.trans (hb.mono s2)
  have r3 := r2.below hb r2.lt
  have s3 := b3.size
  rw [← hkey_def] at i3
  obtain ⟨ks, hks⟩ : ∃ ks, hkey salt key info = ks := ⟨_, rfl⟩
  have hkl : ks.length = 32 := by rw [← hks]; exact hkey_length _ _ _
  have hkw : ∀ z ∈ ks, (Lit.int .u8 z).wf = true := by rw [← hks]; exact hkey_wf _ _ _
  rw [hks] at i3
  have HKS := Lib.hid hks
  have HKL := Lib.hid hkl
  have HKW := Lib.hid hkw
  clear hks hkl hkw hb b2 r2 s2
  have l3 := r3.lt
  go_wp2_with (refine wpList_alloc_Row (w := w3) rfl 22 rfl .u8 32 zero_32 ?_; intro w4 r4 g4 z4)
  obtain ⟨g, hg⟩ : ∃ g, w3.heap.size = g := ⟨_, rfl⟩
  rw [hg] at r4 l3 i3 ⊢
  have b4 : Below w.heap.size w w4 := b3.grown g4 s3 (by simp)
  have i4 : Ints w4 .u8 g A3 32 ks := i3.keep fun p hp => World.cell?_of_block (g4.block _ (by omega) (by simp))
  have r34 := r3.grown g4 (by simp)
  have f4 : Fill w4 g 22 32 (ks.map (Value.int .u8)) 0 := by simpa using fill_of_row (L := ks.map (Value.int .u8)) r4
  clear g4 z4 hg b3 i3 r3 r4 s3
  go_loopw [10] (fun i wr => ∃ k : Nat, k ≤ 32 ∧ i = .int .i64 k ∧ Fill wr g 22 32 (ks.map (Value.int .u8)) k ∧ Ints wr .u8 g A3 32 ks ∧ Row wr w.heap.size 22 .u8 (List.replicate 32 0) ∧ Below w.heap.size w wr) (fun i _ => 32 - (intOf i).toNat)
  case atStart => exact ⟨0, by omega, rfl, f4, i4, r34, b4⟩
  case round =>
    clear f4 i4 r34 b4
    obtain ⟨k, hk, rfl, fk, ik, rk, bk⟩ := hrel
    by_cases hlt : k < 32
    · obtain ⟨b, off, rfl, hbl, hc⟩ := ik.at_ hlt
      obtain ⟨u, hu⟩ := fk.cell hlt
      have hfr := fk.frozen k
      have HS := Lib.hid (fk.step (u := .int .u8 (ks.getD k 0)) (by rw [List.getElem?_map, List.getElem?_eq_getElem (by rw [HKL.out]; exact hlt), List.getD_eq_getElem?_getD, List.getElem?_eq_getElem (by rw [HKL.out]; exact hlt)]; rfl) hlt)
      have hlt' : (k : Int) < 32 := by omega
      have hk0 : (0 : Int) ≤ (k : Int) := by omega
      generalize ks.getD k 0 = z at hc HS
      go_wp2_with fail
      go_roundw
      case rel => exact ⟨k + 1, by omega, by go_num, HS.out, ik.setCell (by simp) _, rk.other (by simpa using (by omega : g ≠ w.heap.size)) _, bk.setCell (by simpa using (by omega : w.heap.size ≤ g)) _⟩
      case measure => simp [intOf]; omega
    · have hk32 : k = 32 := by omega
      subst hk32
      have rg : Row wr g 22 .u8 ks := ⟨HKW.out, fk.done (Nat.le_refl _) (by rw [List.length_map, HKL.out])⟩
      clear fk ik
      go_wp2_with (first
        | (refine wpList_load_Row (w := wr) rfl 22 _ rfl g rfl 22 .u8 _ rg 32 5 Tryd.underlying22 info_32 HKL.out ?_)
        | (refine wpList_store_RowTo (w := wr) rfl 22 _ _ rfl w.heap.size rfl 22 .u8 _ ks rfl rk 32 info_32 HKL.out (by simp) HKW.out ?_; intro w6 r6 g6 z6))
      exact bodyPost_ret (results_Row rfl _ _ w.heap.size _ _ _ rfl r6 32 5 Tryd.underlying22 info_32 HKL.out) rfl ⟨by rw [HKS.out], bk.grown g6 bk.size (fun r e => by cases e; exact Nat.le_refl _)⟩
end Go.Proofs.YtoelgcdjhekafaaDoor.Hkdf
namespace Go.Proofs.YtoelgcdjhekafaaDoor.Mem
open Go.RowKit
set_option linter.unusedVariables false

/-- as 'Own', the row being marked behind its cells or not at all -/
def OwnM (w : World) (base : Nat) (t : TypeId) (k : IntKind) (v : Value) (zs : List Int) : Prop :=
  (∀ z ∈ zs, (Lit.int k z).wf = true) ∧ ((v = .slice none 0 0 ∧ zs = []) ∨ ∃ (g cap : Nat) (cur : Array Value) (fz : Nat × Nat), v = .slice (some ⟨g, 0, none⟩) zs.length cap ∧ base ≤ g ∧ w.heap[g]? = some (.cells cur t fz) ∧ (fz = (0, 0) ∨ cap ≤ fz.1) ∧
    zs.length ≤ cap ∧ cap ≤ maxLen ∧ cur.size = cap ∧ cur.toList.take zs.length = zs.map (Value.int k))
section
variable {w w' : World} {base : Nat} {t : TypeId} {k : IntKind} {v : Value} {zs : List Int}
theorem OwnM.nil (w : World) (base : Nat) (t : TypeId) (k : IntKind) : OwnM w base t k (.slice none 0 0) [] := ⟨by simp, .inl ⟨rfl, rfl⟩⟩
theorem OwnM.of (h : Own w base t k v zs) : OwnM w base t k v zs := by
  refine ⟨h.1, ?_⟩
  rcases h.2.2 with ⟨e, h0⟩ | ⟨g, cap, cur, e, hb, hg, hn, hm, hs, ht⟩
  · exact .inl ⟨e, List.eq_nil_of_length_eq_zero h0⟩
  · exact .inr ⟨g, cap, cur, (0, 0), e, hb, hg, .inl rfl, hn, hm, by simpa using hs, by simpa using ht⟩
theorem OwnM.lt (h : OwnM w base t k v zs) : ∀ b, v.ownBlock = some b → base ≤ b ∧ b < w.heap.size := fun b hb => by
  rcases h.2 with ⟨rfl, _⟩ | ⟨g, cap, cur, fz, rfl, hg, hc, _⟩
  · cases hb
  · cases hb
    exact ⟨hg, (Array.getElem?_eq_some_iff.1 hc).1⟩
theorem OwnM.obj (h : OwnM w base t k v zs) {b : Nat} (hb : v.ownBlock = some b) : ∃ cs fz, w.heap[b]? = some (.cells cs t fz) := by
  rcases h.2 with ⟨rfl, _⟩ | ⟨g, cap, cur, fz, rfl, hg, hc, _⟩
  · cases hb
  · cases hb
    exact ⟨_, _, hc⟩
theorem OwnM.ne (h : OwnM w base t k v zs) {row : Option Nat} (hr : ∀ r, row = some r → ∃ o : Obj, w.heap[r]? = some o ∧ o.isCells = false) : v.ownBlock = none ∨ v.ownBlock ≠ row := by
  cases hb : v.ownBlock with
  | none => exact .inl rfl
  | some b =>
    refine .inr fun e => ?_
    obtain ⟨o, ho, hc⟩ := hr b e.symm
    obtain ⟨cs, fz, h1⟩ := h.obj hb
    rw [h1] at ho
    cases ho
    cases hc
theorem OwnM.kept {row : Option Nat} (h : OwnM w base t k v zs) (hg : w.grownBy w' row) (hne : v.ownBlock = none ∨ v.ownBlock ≠ row) : OwnM w' base t k v zs := by
  refine ⟨h.1, ?_⟩
  rcases h.2 with h0 | ⟨g, cap, cur, fz, rfl, hb, hc, rest⟩
  · exact .inl h0
  · refine .inr ⟨g, cap, cur, fz, rfl, hb, (hg.block g (Array.getElem?_eq_some_iff.1 hc).1 ?_).trans hc, rest⟩
    rcases hne with h1 | h1
    · cases h1
    · exact h1
theorem OwnM.below (h : OwnM w base t k v zs) (hb : Below w.heap.size w w') : OwnM w' base t k v zs := h.kept (grown_of_below hb none) (by cases v.ownBlock <;> simp)
theorem OwnM.less (h : OwnM w base t k v zs) {b : Nat} (hb : b ≤ base) : OwnM w b t k v zs := by
  refine ⟨h.1, ?_⟩
  rcases h.2 with h0 | ⟨g, cap, cur, fz, rfl, hg, rest⟩
  · exact .inl h0
  · exact .inr ⟨g, cap, cur, fz, rfl, Nat.le_trans hb hg, rest⟩
theorem OwnM.form (h : OwnM w base t k v zs) : ∃ A c, v = .slice A zs.length c ∧ zs.length ≤ c ∧ c ≤ maxLen ∧ Ints w k w.heap.size A zs.length zs := by
  rcases h.2 with ⟨rfl, rfl⟩ | ⟨g, cap, cur, fz, rfl, hg, hc, hf, hn, hm, hs, ht⟩
  · exact ⟨none, 0, rfl, Nat.le_refl _, by simp [maxLen], Ints.nil _ _ _ _⟩
  · refine ⟨some ⟨g, 0, none⟩, cap, rfl, hn, hm, rfl, h.1, fun _ => ⟨g, 0, rfl, (Array.getElem?_eq_some_iff.1 hc).1, fun i hi => ?_⟩⟩
    rw [Nat.zero_add, cell_of_row w g i cur t fz hc]
    have e : cur.toList[i]? = (cur.toList.take zs.length)[i]? := by rw [List.getElem?_take, if_pos hi]
    rw [Array.getElem?_toList] at e
    rw [e, ht, List.getElem?_map, List.getD_eq_getElem?_getD, List.getElem?_eq_getElem hi]
    rfl
theorem OwnM.ints {A : Option Addr} {n c : Nat} (h : OwnM w base t k (.slice A n c) zs) (hl : zs.length = n) : Ints w k w.heap.size A n zs := by
  obtain ⟨A', c', e, _, _, hi⟩ := h.form
  injection e with e1 e2 _
  subst e1
  rw [hl] at hi
  exact hi
/-- its head, if there is something -/
theorem OwnM.head {A : Option Addr} {n c : Nat} (h : OwnM w base t k (.slice A n c) zs) (h0 : 0 < n) : ∃ g, A = some ⟨g, 0, none⟩ ∧ base ≤ g ∧ w.rangeAt g 0 (zs.map (Value.int k)) := by
  obtain ⟨A', c', e, h1, h2, hi⟩ := h.form
  rcases h.2 with ⟨e', _⟩ | ⟨g, cap, cur, fz, e', hg, _⟩
  · cases e'; omega
  · injection e' with e1 e2 e3
    injection e with f1 f2 f3
    subst e1
    subst f1
    refine ⟨g, rfl, hg, fun j v hv => ?_⟩
    have hj : j < zs.length := by simpa using (List.getElem?_eq_some_iff.1 hv).1
    obtain ⟨b, off, q, _, hc⟩ := hi.at_ hj
    cases q
    rw [hc, ← hv]
    simp [List.getD_eq_getElem?_getD, hj]
theorem OwnM.caps {A : Option Addr} {n c : Nat} (h : OwnM w base t k (.slice A n c) zs) : zs.length = n ∧ n ≤ c ∧ c ≤ maxLen := by
  obtain ⟨A', c', e, h1, h2, _⟩ := h.form
  injection e with e1 e2 e3
  subst e2
  subst e3
  exact ⟨rfl, h1, h2⟩
end
theorem addr_add (g o j : Nat) : (Addr.mk g o none).add j = ⟨g, o + j, none⟩ := by unfold Addr.add; split <;> simp_all

/-- one number appended, within the room that is there -/
theorem run_append_fits_one {P : Program} (w : World) (ts ty e : TypeId) (k : IntKind) (i : TypeInfo) (ht : P.underlying ts = some (.slice e)) (hi : P.info? e = some i) (hs : i.size = 1) (g n cap : Nat) (cur : Array Value) (fz : Nat × Nat)
    (hg : w.heap[g]? = some (.cells cur e fz)) (hf : fz = (0, 0) ∨ cap ≤ fz.1) (hc : cur.size = cap) (hn : n + 1 ≤ cap) (ad : Addr) (c : Nat) (z : Int) (hz : w.cell? ad = some (.int k z)) (had : ad.add 0 = ad) :
    (Builtin.append_ #[ts, ts] ty #[.slice (some ⟨g, 0, none⟩) n cap, .slice (some ad) 1 c]).run P w = .ok (.slice (some ⟨g, 0, none⟩) (n + 1) cap) (w.setCell ⟨g, n, none⟩ (.int k z)) := by
  have hl := run_firstCells_some (P := P) w 1 1 ad 1 c [.int k z] rfl (fun j u hu => by
    cases j with
    | zero => simp at hu; subst hu; rw [had]; exact hz
    | succ j => simp at hu)
  have hcell : w.cell? ⟨g, n, none⟩ = some (cur[n]'(by omega)) := by rw [cell_of_row w g n cur e fz hg, Array.getElem?_eq_getElem]
  have hfr : w.frozen? ⟨g, n, none⟩ = false := by
    simp only [World.frozen?, hg]
    rcases hf with rfl | h
    · simp
    · simp only [Bool.and_eq_false_iff, decide_eq_false_iff_not]
      left
      omega
  simp [Builtin.append_, run_underlying ht, sizeOf, typeInfo, hi, hs, Builtin.lenOf, hn, hl, addr_add, storeCells, run_store P w ⟨g, n, none⟩ (.int k z) _ rfl, hcell, hfr]

theorem run_append_oneM {P : Program} (w : World) (base : Nat) (ts ty e : TypeId) (k : IntKind) (bytes : Nat) (ht : P.underlying ts = some (.slice e))
    (hinfo : (P.info? e).map (fun i => (i.zero, i.size, i.bytes)) = some (some (.int k 0), 1, bytes)) (v : Value) (zs : List Int) (hown : OwnM w base e k v zs)
    (p c : Nat) (z : Int) (hr : w.cell? ⟨p, 0, none⟩ = some (.int k z)) (hwf : (Lit.int k z).wf = true) (hlen : zs.length + 1 ≤ 17592186044416) (hby : bytes ≤ 8) (hbase : base ≤ w.heap.size) :
    ∃ v' w', (Builtin.append_ #[ts, ts] ty #[v, .slice (some ⟨p, 0, none⟩) 1 c]).run P w = .ok v' w' ∧ OwnM w' base e k v' (zs ++ [z]) ∧ w.grownBy w' v.ownBlock ∧
      (v'.ownBlock = v.ownBlock ∨ v'.ownBlock = some w.heap.size) := by
  have hI : Ints w k w.heap.size (some ⟨p, 0, none⟩) 1 [z] := ⟨rfl, fun y hy => by rw [List.mem_singleton.1 hy]; exact hwf, fun _ => ⟨p, 0, rfl, World.block_lt_of_cell? w _ hr, fun i hi => by
    obtain rfl : i = 0 := by omega
    exact hr⟩⟩
  have hwf' : ∀ y ∈ zs ++ [z], (Lit.int k y).wf = true := fun y hy => by
    rcases List.mem_append.1 hy with h | h
    · exact hown.1 y h
    · rw [List.mem_singleton.1 h]; exact hwf
  rcases hown.2 with ⟨rfl, rfl⟩ | ⟨g, cap, cur, fz, rfl, hb, hg, hf, hn, hm, hs, htake⟩
  · obtain ⟨v', w', h1, h2, h3, h4⟩ := run_append_ints (P := P) w base ts ty e k bytes ht hinfo _ [] (Own.nil w base e k) w.heap.size _ 1 c [z] hI (by simp) hby hbase
    exact ⟨v', w', h1, OwnM.of h2, h3, h4⟩
  · obtain ⟨i, hi, hz, hsz, hbb⟩ := info_parts hinfo
    by_cases hroom : zs.length + 1 ≤ cap
    · refine ⟨_, _, run_append_fits_one w ts ty e k i ht hi hsz g zs.length cap cur fz hg hf hs hroom ⟨p, 0, none⟩ c z hr (addr_add _ _ _), ⟨hwf', .inr ⟨g, cap, cur.setIfInBounds zs.length (.int k z), fz, by simp, hb, ?_, hf, by simpa using hroom, hm, by simpa using hs, ?_⟩⟩, grown_setCell w g _ _, .inl rfl⟩
      · simp [World.setCell, Array.getElem?_modify, hg]
      · rw [List.length_append, List.length_singleton, Array.toList_setIfInBounds, List.take_succ_eq_append_getElem (by simp; omega), List.take_set_of_le (Nat.le_refl _), htake]
        simp
    · have holds : ∀ j u, (zs.map (Value.int k))[j]? = some u → w.cell? ((⟨g, 0, none⟩ : Addr).add j) = some u := fun j u hu => by
        have hj : j < zs.length := by simpa using (List.getElem?_eq_some_iff.1 hu).1
        rw [addr_add, Nat.zero_add, cell_of_row w g j cur e fz hg, ← Array.getElem?_toList, ← hu, ← htake, List.getElem?_take, if_pos hj]
      have hr2 := run_append_grow (P := P) w ts ty e i (.int k 0) ht hi hz ⟨g, 0, none⟩ zs.length cap (zs.map (Value.int k)) (by simp [hsz]) holds ⟨p, 0, none⟩ 1 c [.int k z] (by simp [hsz]) (fun j u hu => by
        cases j with
        | zero => simp at hu; subst hu; rw [addr_add]; exact hr
        | succ j => simp at hu) (by omega) (by omega) (growslice_fits (by omega) (by rw [hbb]; exact Nat.le_trans (Nat.mul_le_mul hlen hby) (by omega)))
      have hge := grownCap_ge w (zs.length + 1) cap e
      have hcm : grownCap w (zs.length + 1) cap e ≤ maxLen := grownCap_le_maxLen w (zs.length + 1) cap e (by simp only [maxLen]; omega)
      refine ⟨_, _, hr2, ⟨hwf', .inr ⟨w.heap.size, _, _, (0, 0), by simp, hbase, heap_alloc_new w.drew _, .inl rfl, by simpa using hge, hcm, ?_, ?_⟩⟩, ⟨rfl, rfl, rfl, by simp, fun k hk _ => Below.heap_alloc w.drew _ k hk⟩, .inr rfl⟩
      · simp only [Array.size_append, List.size_toArray, size_zeroCells, List.length_map, List.length_singleton, Value.cells]
        simp
        omega
      · simp only [Array.toList_append, List.append_assoc, List.length_append, List.length_singleton]
        rw [← List.append_assoc, List.take_left' (by simp)]
        simp
/-- a text, turned into bytes of the call's own -/
theorem own_text (w : World) (e : TypeId) (s : ByteArray) (zs : List Int) (hs : s.data.toList.map (fun b => (b.toNat : Int)) = zs) (hm : s.size ≤ 1048576) : OwnM (Lib.bytesWorld w e s) w.heap.size e .u8 (.slice (some ⟨w.heap.size, 0, none⟩) s.size (grownCap w s.size 0 e)) zs := by
  have hl : zs.length = s.size := by rw [← hs, List.length_map]; rfl
  have hge := grownCap_ge w s.size 0 e
  have hsz : (Lib.bytesCells w e s).size = grownCap w s.size 0 e := by
    simp only [Lib.bytesCells, Array.size_append, Array.size_map, Array.size_replicate]
    have : s.data.size = s.size := rfl
    omega
  refine ⟨fun z hz => ?_, .inr ⟨w.heap.size, grownCap w s.size 0 e, Lib.bytesCells w e s, ((Lib.bytesCells w e s).size, (Lib.bytesCells w e s).size + 1), by rw [hl], Nat.le_refl _, ?_, .inr (by simp [hsz]), by rw [hl]; exact hge, grownCap_le_maxLen w s.size 0 e (by simp only [maxLen]; omega), hsz, ?_⟩⟩
  · rw [← hs] at hz
    obtain ⟨b, _, rfl⟩ := List.mem_map.1 hz
    have := b.toNat_lt
    simp [Lit.wf, IntKind.min, IntKind.max, IntKind.signed, IntKind.bits]
    omega
  · simp [Lib.bytesWorld, World.freeze, World.alloc, World.drew, -World.alloc_eq, -World.drew_eq, Array.getElem_modify]
  · rw [hl]
    simp only [Lib.bytesCells, Array.toList_append, Array.toList_map, ← hs]
    rw [List.take_left' (by rw [List.length_map]; rfl), List.map_map]
    rfl
end Go.Proofs.YtoelgcdjhekafaaDoor.Mem
namespace Go.Proofs.YtoelgcdjhekafaaDoor.Ky
open Go.RowKit Go.Shelf Go.Proofs.YtoelgcdjhekafaaDoor.Mem Go.Proofs.YtoelgcdjhekafaaDoor.Help Go.Proofs.YtoelgcdjhekafaaDoor
set_option linter.unusedVariables false
attribute [local irreducible] wpList wpListIn Calls

theorem run_cat {P : Program} (t : TypeId) (xs ys zs : List UInt8) (hz : xs ++ ys = zs) (hl : zs.length ≤ 1048576) (w : World) : (binOp .add t (.string ⟨xs.toArray⟩) (.string ⟨ys.toArray⟩)).run P w = .ok (.string ⟨zs.toArray⟩) w := by
  subst hz
  have e : (⟨xs.toArray⟩ : ByteArray) ++ ⟨ys.toArray⟩ = ⟨(xs ++ ys).toArray⟩ := by
    ext1
    simp [ByteArray.data_append]
  have h1 : (⟨xs.toArray⟩ : ByteArray).size = xs.length := by simp [ByteArray.size]
  have h2 : (⟨ys.toArray⟩ : ByteArray).size = ys.length := by simp [ByteArray.size]
  rw [List.length_append] at hl
  have h3 : ((⟨xs.toArray⟩ : ByteArray).size : Int) + ((⟨ys.toArray⟩ : ByteArray).size : Int) ≤ 9223372036854775807 := by rw [h1, h2]; omega
  simp [binOp, Op.stringOp, h3, e, IntKind.max, IntKind.signed, IntKind.bits]
theorem str_num (x : Nat) (hx : x < 10) : strOfNums [48 + (x : Int)] = ⟨[UInt8.ofNat (48 + x)].toArray⟩ := by
  unfold strOfNums
  have e : (48 + (x : Int)).toNat = 48 + x := by omega
  simp [e]
section
variable {P : Program} {S : World → Prop} {ρ : Operand → Value} {o : Oper}
/-- texts, one behind the other -/
theorem y_cat {t ty : TypeId} {x y : Operand} {xs ys zs : List UInt8} (ho : o.op = .binOp .add t x y ty) (hx : ρ x = .string ⟨xs.toArray⟩) (hy : ρ y = .string ⟨ys.toArray⟩) (hz : xs ++ ys = zs) (hl : zs.length ≤ 1048576) :
    ∀ w, S w → (execOp ρ o).run P w = .ok (.value (.string ⟨zs.toArray⟩)) w := Held.y_bin ho hx hy (fun w => by simp [eqGuard]) (fun w => run_cat t xs ys zs hz hl w)
end
section
variable {P : Program} {ops : Array Oper} {Q : Exit → Act → World → Prop}
/-- an operation that yields v, carried out -/
theorem op_val (i : Nat) (d : Option Tmp) {o : Oper} {a : Act} {w : World} {K : Act → World → Prop} (v : Value) (hi : ops[i]? = some o) (hd : o.dst = d) (hw : Region.wanted o (yielded ops a.tmps) = true)
    (hr : (execOp a.eval o).run P w = .ok (.value v) w) (h : K (a.put d v) w) : wpOp P ops Q i K a w := by
  subst hd
  refine Held.op_wp i hi hw ?_
  unfold Oper.wp
  rw [hr]
  exact h
theorem wpList_cat {rest : List Oper} {o : Oper} {a : Act} {w : World} (hgd : o.guard = none) (t ty : TypeId) (x y : Operand) (ho : o.op = .binOp .add t x y ty) (xs ys zs : List UInt8) (hx : a.eval x = .string ⟨xs.toArray⟩) (hy : a.eval y = .string ⟨ys.toArray⟩) (hz : xs ++ ys = zs) (hl : zs.length ≤ 1048576)
    (h : wpList P ops Q rest (a.put o.dst (.string ⟨zs.toArray⟩)) w) : wpList P ops Q (o :: rest) a w := by
  refine wpList_plain hgd fun K hK => ?_
  unfold Oper.wp
  rw [y_cat (S := fun _ => True) ho hx hy hz hl w trivial]
  exact hK _ _ h
end
theorem dec_length (u : Nat) (h : u < 18446744073709551616) : (Lib.decDigits u).length ≤ 20 := by
  rw [Lib.decDigits_length]
  by_cases h0 : u = 0
  · subst h0; rw [Lib.nDigits_small (by omega)]; omega
  · have := Lib.numDigits_eq u (by omega) h
    split at this <;> omega
theorem dec_big {u : Nat} (h : ¬ u < 10) : Lib.decDigits u = Lib.decDigits (u / 10) ++ [UInt8.ofNat (48 + u % 10)] := by rw [Lib.decDigits, dif_neg h]

set_option maxRecDepth 100000 in
set_option maxHeartbeats 4000000 in
theorem digits_any : ∀ (n u : Nat), u < n → u < 18446744073709551616 → ∀ w : World,
    Calls Tryd.prog 33 #[.int .u64 (u : Int)] w fun e w' => e = .returned (.string ⟨(Lib.decDigits u).toArray⟩) ∧ Below w.heap.size w w'
  | 0, u, h, _, w => absurd h (by omega)
  | n + 1, u, hn, hu, w => by
    by_cases h10 : u < 10
    · have hlt : (u : Int) < 10 := by omega
      have W1 : IntKind.u64.wrap (48 + (u : Int)) = 48 + (u : Int) := by rw [IntKind.wrap_u64]; omega
      have W2 : IntKind.u8.wrap (48 + (u : Int)) = 48 + (u : Int) := by rw [IntKind.wrap_u8]; omega
      have hwz : ∀ z ∈ [48 + (u : Int)], (Lit.int .u8 z).wf = true := fun z hz => by rw [List.mem_singleton.1 hz]; simp [Lit.wf, IntKind.min, IntKind.max, IntKind.signed, IntKind.bits]; omega
      have HS := Lib.hid (str_num u h10)
      go_enter Tryd.func33, Tryd.ntmps33
      go_wp2_with (first
        | (refine Held.wpList_build_row (w := w) rfl 34 5 1 _ rfl .u8 1 [48 + (u : Int)] Tryd.underlying34 info_u8 (by simp [Act.eval]) rfl (by omega) (by omega) hwz ?_; intro w1 r1 g1 z1; have hrun := run_text (P := Tryd.prog) w1 34 9 5 Tryd.underlying34 Tryd.underlying5 Tryd.underlying9 w1.heap.size _ 1 1 _ (r1.ints (n := 1) (by simp)); rw [show [48 + (u : Int)].take 1 = [48 + (u : Int)] from rfl, HS.out] at hrun))
      have b1 : Below w.heap.size w w1 := (Below.refl _ w).grown g1 (Nat.le_refl _) (by simp)
      go_ret
      exact ⟨by simp [Lib.decDigits_one h10], b1⟩
    · have hlt : ¬ (u : Int) < 10 := by omega
      have IH := digits_any n (u / 10) (by omega) (by omega)
      obtain ⟨q, hq⟩ : ∃ q, u / 10 = q := ⟨_, rfl⟩
      obtain ⟨r, hr⟩ : ∃ r, u % 10 = r := ⟨_, rfl⟩
      have hr10 : r < 10 := by omega
      have HD := Lib.hid (show Lib.decDigits q ++ [UInt8.ofNat (48 + r)] = Lib.decDigits u by rw [← hq, ← hr]; exact (dec_big h10).symm)
      have HL := Lib.hid (Nat.le_trans (dec_length u hu) (show 20 ≤ 1048576 by omega))
      rw [hq] at IH
      have W0 : IntKind.u64.wrap ((u : Int).tdiv 10) = (q : Int) := by rw [IntKind.wrap_u64, Int.tdiv_eq_ediv_of_nonneg (by omega)]; omega
      have W1 : (u : Int).tmod 10 = (r : Int) := by rw [Int.tmod_eq_emod_of_nonneg (by omega)]; omega
      have W2 : IntKind.u64.wrap (48 + (r : Int)) = 48 + (r : Int) := by rw [IntKind.wrap_u64]; omega
      have W3 : IntKind.u8.wrap (48 + (r : Int)) = 48 + (r : Int) := by rw [IntKind.wrap_u8]; omega
      have hwz : ∀ z ∈ [48 + (r : Int)], (Lit.int .u8 z).wf = true := fun z hz => by rw [List.mem_singleton.1 hz]; simp [Lit.wf, IntKind.min, IntKind.max, IntKind.signed, IntKind.bits]; omega
      have HS := Lib.hid (str_num r hr10)
      clear hq hr
      go_enter Tryd.func33, Tryd.ntmps33
      go_wp2_with fail
      refine wp_region_held (S := fun W => Below w.heap.size w W) (by kernel_rfl) ?_
      change wpAnyH _ _ _ _ _ _ _ _ w.drew
      have c0_0 := (Below.refl w.heap.size w).drew
      refine Held.take (v := .int .u64 (u : Int)) 0 (some 10) rfl rfl (by kernel_rfl) (by kernel_rfl) (by kernel_rfl) (fun _ _ _ h => h) rfl (Held.y_move rfl rfl) c0_0 ?_
      simp only [Act.put, List.setIfInBounds_toArray, List.set_cons_zero, List.set_cons_succ]
      refine Held.take (v := .int .u64 (q : Int)) 1 (some 11) rfl rfl (by kernel_rfl) (by kernel_rfl) (by kernel_rfl) (fun _ _ _ h => h) rfl (Held.y_int rfl rfl rfl (Held.run_quo 23 .u64 (by omega) W0)) c0_0 ?_
      simp only [Act.put, List.setIfInBounds_toArray, List.set_cons_zero, List.set_cons_succ]
      refine Held.take (v := .int .u64 (u : Int)) 3 (some 13) rfl rfl (by kernel_rfl) (by kernel_rfl) (by kernel_rfl) (fun _ _ _ h => h) rfl (Held.y_move rfl rfl) c0_0 ?_
      simp only [Act.put, List.setIfInBounds_toArray, List.set_cons_zero, List.set_cons_succ]
      refine Held.take (v := .int .u64 (r : Int)) 4 (some 14) rfl rfl (by kernel_rfl) (by kernel_rfl) (by kernel_rfl) (fun _ _ _ h => h) rfl (Held.y_int rfl rfl rfl (Held.run_rem 23 .u64 (by omega) W1)) c0_0 ?_
      simp only [Act.put, List.setIfInBounds_toArray, List.set_cons_zero, List.set_cons_succ]
      refine Held.take (v := .int .u64 (48 + (r : Int))) 5 (some 15) rfl rfl (by kernel_rfl) (by kernel_rfl) (by kernel_rfl) (fun _ _ _ h => h) rfl (Held.y_int rfl rfl rfl (Held.run_add 23 .u64 W2)) c0_0 ?_
      simp only [Act.put, List.setIfInBounds_toArray, List.set_cons_zero, List.set_cons_succ]
      refine Held.take (v := .int .u8 (48 + (r : Int))) 6 (some 16) rfl rfl (by kernel_rfl) (by kernel_rfl) (by kernel_rfl) (fun _ _ _ h => h) rfl (Held.y_convert rfl rfl (by kernel_rfl) Tryd.underlying5 W3) c0_0 ?_
      simp only [Act.put, List.setIfInBounds_toArray, List.set_cons_zero, List.set_cons_succ]
      refine Held.two 2 7 (by kernel_rfl) ?_ ?_
      · refine Held.op_call 2 (some 12) 33 #[.int .u64 (q : Int)] rfl rfl rfl rfl (enters_of Tryd.func33 (by kernel_rfl) rfl) (by simp [Act.eval]) (IH w.drew) ?_
        rintro e x1 ⟨rfl, b1⟩
        have c0_1 := c0_0.trans (b1.mono c0_0.size)
        refine ⟨_, rfl, c0_1, ?_⟩
        simp only [Act.put, List.setIfInBounds_toArray, List.set_cons_zero, List.set_cons_succ]
        refine Held.one 7 (by kernel_rfl) ?_
        refine Held.op_build_Row 7 (some 17) 34 5 1 .u8 1 [48 + (r : Int)] rfl rfl rfl rfl Tryd.underlying34 info_u8 (by simp [Act.eval]) rfl (by omega) (by omega) hwz ?_
        intro p x2 rR bb hp
        have b2 : Below x1.heap.size x1 x2 := ⟨bb.os, bb.tape, bb.output, bb.size, bb.block⟩
        have c0_2 := c0_1.trans (b2.mono c0_1.size)
        refine ⟨c0_2, ?_⟩
        simp only [Act.put, List.setIfInBounds_toArray, List.set_cons_zero, List.set_cons_succ]
        refine Held.one 8 (by kernel_rfl) ?_
        have hrun := run_text (P := Tryd.prog) x2 34 9 5 Tryd.underlying34 Tryd.underlying5 Tryd.underlying9 x2.heap.size _ 1 1 _ (rR.ints (n := 1) (by simp))
        rw [show [48 + (r : Int)].take 1 = [48 + (r : Int)] from rfl, HS.out] at hrun
        refine op_val 8 (some 18) (.string ⟨[UInt8.ofNat (48 + r)].toArray⟩) rfl rfl rfl (by simp [execOp, Act.eval, hrun]) ?_
        obtain ⟨x3, hx3⟩ : ∃ x, x = x2 := ⟨_, rfl⟩
        rw [← hx3] at c0_2 rR ⊢
        have c0_3 := c0_2
        clear hrun hx3
        refine ⟨c0_3, ?_⟩
        simp only [Act.put, List.setIfInBounds_toArray, List.set_cons_zero, List.set_cons_succ]
        refine Held.take (v := .string ⟨(Lib.decDigits u).toArray⟩) 9 (some 19) rfl rfl (by kernel_rfl) (by kernel_rfl) (by kernel_rfl) (fun _ _ _ h => h) rfl (y_cat rfl rfl rfl HD.out HL.out) c0_3 ?_
        simp only [Act.put, List.setIfInBounds_toArray, List.set_cons_zero, List.set_cons_succ]
        refine Held.take (v := .string ⟨(Lib.decDigits u).toArray⟩) 10 (some 2) rfl rfl (by kernel_rfl) (by kernel_rfl) (by kernel_rfl) (fun _ _ _ h => h) rfl (Held.y_assign rfl rfl) c0_3 ?_
        simp only [Act.put, List.setIfInBounds_toArray, List.set_cons_zero, List.set_cons_succ]
        refine wpAnyH_done (by kernel_rfl) ?_ _
        go_wp2_with fail
        go_ret
        exact ⟨rfl, c0_3⟩
      · refine Held.op_build_Row 7 (some 17) 34 5 1 .u8 1 [48 + (r : Int)] rfl rfl rfl rfl Tryd.underlying34 info_u8 (by simp [Act.eval]) rfl (by omega) (by omega) hwz ?_
        intro p x1 rR bb hp
        have b1 : Below w.drew.heap.size w.drew x1 := ⟨bb.os, bb.tape, bb.output, bb.size, bb.block⟩
        have c0_1 := c0_0.trans (b1.mono c0_0.size)
        refine ⟨c0_1, ?_⟩
        simp only [Act.put, List.setIfInBounds_toArray, List.set_cons_zero, List.set_cons_succ]
        refine Held.two 2 8 (by kernel_rfl) ?_ ?_
        · refine Held.op_call 2 (some 12) 33 #[.int .u64 (q : Int)] rfl rfl rfl rfl (enters_of Tryd.func33 (by kernel_rfl) rfl) (by simp [Act.eval]) (IH x1) ?_
          rintro e x2 ⟨rfl, b2⟩
          have c0_2 := c0_1.trans (b2.mono c0_1.size)
          have rR := rR.below b2 rR.lt
          refine ⟨_, rfl, c0_2, ?_⟩
          simp only [Act.put, List.setIfInBounds_toArray, List.set_cons_zero, List.set_cons_succ]
          refine Held.one 8 (by kernel_rfl) ?_
          have hrun := run_text (P := Tryd.prog) x2 34 9 5 Tryd.underlying34 Tryd.underlying5 Tryd.underlying9 x2.heap.size _ 1 1 _ (rR.ints (n := 1) (by simp))
          rw [show [48 + (r : Int)].take 1 = [48 + (r : Int)] from rfl, HS.out] at hrun
          refine op_val 8 (some 18) (.string ⟨[UInt8.ofNat (48 + r)].toArray⟩) rfl rfl rfl (by simp [execOp, Act.eval, hrun]) ?_
          obtain ⟨x3, hx3⟩ : ∃ x, x = x2 := ⟨_, rfl⟩
          rw [← hx3] at c0_2 rR ⊢
          have c0_3 := c0_2
          clear hrun hx3
          refine ⟨c0_3, ?_⟩
          simp only [Act.put, List.setIfInBounds_toArray, List.set_cons_zero, List.set_cons_succ]
          refine Held.take (v := .string ⟨(Lib.decDigits u).toArray⟩) 9 (some 19) rfl rfl (by kernel_rfl) (by kernel_rfl) (by kernel_rfl) (fun _ _ _ h => h) rfl (y_cat rfl rfl rfl HD.out HL.out) c0_3 ?_
          simp only [Act.put, List.setIfInBounds_toArray, List.set_cons_zero, List.set_cons_succ]
          refine Held.take (v := .string ⟨(Lib.decDigits u).toArray⟩) 10 (some 2) rfl rfl (by kernel_rfl) (by kernel_rfl) (by kernel_rfl) (fun _ _ _ h => h) rfl (Held.y_assign rfl rfl) c0_3 ?_
          simp only [Act.put, List.setIfInBounds_toArray, List.set_cons_zero, List.set_cons_succ]
          refine wpAnyH_done (by kernel_rfl) ?_ _
          go_wp2_with fail
          go_ret
          exact ⟨rfl, c0_3⟩
        · have hrun := run_text (P := Tryd.prog) x1 34 9 5 Tryd.underlying34 Tryd.underlying5 Tryd.underlying9 x1.heap.size _ 1 1 _ (rR.ints (n := 1) (by simp))
          rw [show [48 + (r : Int)].take 1 = [48 + (r : Int)] from rfl, HS.out] at hrun
          refine op_val 8 (some 18) (.string ⟨[UInt8.ofNat (48 + r)].toArray⟩) rfl rfl rfl (by simp [execOp, Act.eval, hrun]) ?_
          obtain ⟨x2, hx2⟩ : ∃ x, x = x1 := ⟨_, rfl⟩
          rw [← hx2] at c0_1 rR ⊢
          have c0_2 := c0_1
          clear hrun hx2
          refine ⟨c0_2, ?_⟩
          simp only [Act.put, List.setIfInBounds_toArray, List.set_cons_zero, List.set_cons_succ]
          refine Held.one 2 (by kernel_rfl) ?_
          refine Held.op_call 2 (some 12) 33 #[.int .u64 (q : Int)] rfl rfl rfl rfl (enters_of Tryd.func33 (by kernel_rfl) rfl) (by simp [Act.eval]) (IH x2) ?_
          rintro e x3 ⟨rfl, b3⟩
          have c0_3 := c0_2.trans (b3.mono c0_2.size)
          have rR := rR.below b3 rR.lt
          refine ⟨_, rfl, c0_3, ?_⟩
          simp only [Act.put, List.setIfInBounds_toArray, List.set_cons_zero, List.set_cons_succ]
          refine Held.take (v := .string ⟨(Lib.decDigits u).toArray⟩) 9 (some 19) rfl rfl (by kernel_rfl) (by kernel_rfl) (by kernel_rfl) (fun _ _ _ h => h) rfl (y_cat rfl rfl rfl HD.out HL.out) c0_3 ?_
          simp only [Act.put, List.setIfInBounds_toArray, List.set_cons_zero, List.set_cons_succ]
          refine Held.take (v := .string ⟨(Lib.decDigits u).toArray⟩) 10 (some 2) rfl rfl (by kernel_rfl) (by kernel_rfl) (by kernel_rfl) (fun _ _ _ h => h) rfl (Held.y_assign rfl rfl) c0_3 ?_
          simp only [Act.put, List.setIfInBounds_toArray, List.set_cons_zero, List.set_cons_succ]
          refine wpAnyH_done (by kernel_rfl) ?_ _
          go_wp2_with fail
          go_ret
          exact ⟨rfl, c0_3⟩

theorem digits_at (u : Nat) (hu : u < 18446744073709551616) (w : World) :
    Calls Tryd.prog 33 #[.int .u64 (u : Int)] w fun e w' => e = .returned (.string ⟨(Lib.decDigits u).toArray⟩) ∧ Below w.heap.size w w' := digits_any (u + 1) u (by omega) hu w
theorem itoa_length (v : Int) (h : -9223372036854775808 ≤ v ∧ v ≤ 9223372036854775807) : (Lib.itoa v).length ≤ 21 := by
  unfold Lib.itoa
  split
  · have := dec_length v.natAbs (by omega)
    rw [List.length_cons]
    omega
  · have := dec_length v.toNat (by omega)
    omega
set_option maxRecDepth 100000 in
theorem number_any (v : Int) (h : -9223372036854775808 ≤ v ∧ v ≤ 9223372036854775807) (w : World) :
    Calls Tryd.prog 32 #[.int .i64 v] w fun e w' => e = .returned (.string ⟨(Lib.itoa v).toArray⟩) ∧ Below w.heap.size w w' := by
  have HL := Lib.hid (Nat.le_trans (itoa_length v h) (show 21 ≤ 1048576 by omega))
  by_cases hneg : v < 0
  · obtain ⟨u, hu⟩ : ∃ u : Nat, v.natAbs = u := ⟨_, rfl⟩
    have HI := Lib.hid (show [45] ++ Lib.decDigits u = Lib.itoa v by rw [← hu]; unfold Lib.itoa; rw [if_pos hneg]; rfl)
    have W1 : IntKind.i64.wrap (v + 1) = v + 1 := by rw [IntKind.wrap_i64]; omega
    have W2 : IntKind.i64.wrap (-(v + 1)) = -(v + 1) := by rw [IntKind.wrap_i64]; omega
    have W3 : IntKind.u64.wrap (-(v + 1)) = -(v + 1) := by rw [IntKind.wrap_u64]; omega
    have W4 : IntKind.u64.wrap (-(v + 1) + 1) = (u : Int) := by rw [IntKind.wrap_u64]; omega
    have hb : u < 18446744073709551616 := by omega
    clear hu
    go_enter Tryd.func32, Tryd.ntmps32
    go_wp2_with fail
    refine (digits_at u hb _).mono ?_
    rintro e w1 ⟨rfl, b1⟩
    go_wp2_with (refine wpList_cat rfl 9 9 _ _ rfl [45] (Lib.decDigits u) (Lib.itoa v) rfl rfl HI.out HL.out ?_)
    go_ret
    exact ⟨rfl, b1⟩
  · obtain ⟨u, hu⟩ : ∃ u : Nat, v.toNat = u := ⟨_, rfl⟩
    have HI := Lib.hid (show Lib.decDigits u = Lib.itoa v by rw [← hu]; unfold Lib.itoa; rw [if_neg hneg])
    have W3 : IntKind.u64.wrap v = (u : Int) := by rw [IntKind.wrap_u64]; omega
    have hb : u < 18446744073709551616 := by omega
    clear hu
    go_enter Tryd.func32, Tryd.ntmps32
    go_wp2_with fail
    refine (digits_at u hb _).mono ?_
    rintro e w1 ⟨rfl, b1⟩
    go_wp2_with fail
    go_ret
    exact ⟨by rw [HI.out]; rfl, b1⟩
end Go.Proofs.YtoelgcdjhekafaaDoor.Ky
