/-
  The quarter round, of package chacha and of the document's own, each by its contract.
  Four bytes as a number and back, and a round at four places, each by its contract.
  The functions state, mixed and Block of package chacha by their contracts.
  The functions mixed and Block of package chacha by their contracts.
-/
import Derived.Test.YtjelacblnjbfgaaGreatDoorB14
import Derived.Lib.EndianBits
import Derived.Test.YtjelacblnjbfgaaGreatDoorB8
import Derived.Lib.BufferOwn
import Derived.Test.YtjelacblnjbfgaaGreatDoorB11
import Derived.Test.YtjelacblnjbfgaaGreatDoorB2
import Derived.Test.YtjelacblnjbfgaaGreatDoorB9
set_option linter.unusedVariables false
namespace Go.Proofs.YtjelacblnjbfgaaGreatDoor.Cha
open Go.RowKit Mem Help Go.Proofs.YtjelacblnjbfgaaGreatDoor.Sum Cc
attribute [local irreducible] wpList wpListIn
theorem lft_16 (x : Int) (w : World) (hx : R32 x) : Calls Tryz.prog 118 #[.int .u32 x, .int .i64 16] w fun e w' => e = .returned (.int .u32 (lft x 16)) ∧ w = w' := lft_any x 16 w hx (by omega) (by omega)
theorem lft_12 (x : Int) (w : World) (hx : R32 x) : Calls Tryz.prog 118 #[.int .u32 x, .int .i64 12] w fun e w' => e = .returned (.int .u32 (lft x 12)) ∧ w = w' := lft_any x 12 w hx (by omega) (by omega)
theorem lft_8 (x : Int) (w : World) (hx : R32 x) : Calls Tryz.prog 118 #[.int .u32 x, .int .i64 8] w fun e w' => e = .returned (.int .u32 (lft x 8)) ∧ w = w' := lft_any x 8 w hx (by omega) (by omega)
theorem lft_7 (x : Int) (w : World) (hx : R32 x) : Calls Tryz.prog 118 #[.int .u32 x, .int .i64 7] w fun e w' => e = .returned (.int .u32 (lft x 7)) ∧ w = w' := lft_any x 7 w hx (by omega) (by omega)
theorem results_tmp4 {fn : Func} {t u v x : Tmp} (h : fn.results = #[.tmp t, .tmp u, .tmp v, .tmp x]) (tmps : Array Value) (P : Program) (w : World) :
    (results fn tmps).run P w = .ok (.tuple #[tmps.getD t undef, tmps.getD u undef, tmps.getD v undef, tmps.getD x undef]) w := by
  simp [results, h]
theorem addI3 (a b c : Int) : (a + b + c) % 4294967296 = addI (addI a b) c := by unfold addI; omega
theorem quarter_any (a b c d : Int) (w : World) :
    Calls Tryz.prog 110 #[.int .u32 a, .int .u32 b, .int .u32 c, .int .u32 d] w fun e w' => e = .returned (.tuple #[.int .u32 (qr a b c d).1, .int .u32 (qr a b c d).2.1, .int .u32 (qr a b c d).2.2.1, .int .u32 (qr a b c d).2.2.2]) ∧ w = w' := by
  go_enter Tryz.func110, Tryz.ntmps110
  go_wp2_with fail
  refine (lft_16 _ _ (r32_bits _ _ _)).mono ?_
  rintro e w' ⟨rfl, rfl⟩
  go_wp2_with fail
  refine (lft_12 _ _ (r32_bits _ _ _)).mono ?_
  rintro e w' ⟨rfl, rfl⟩
  go_wp2_with fail
  refine (lft_8 _ _ (r32_bits _ _ _)).mono ?_
  rintro e w' ⟨rfl, rfl⟩
  go_wp2_with fail
  refine (lft_7 _ _ (r32_bits _ _ _)).mono ?_
  rintro e w' ⟨rfl, rfl⟩
  go_wp2_with fail
  refine bodyPost_ret (results_tmp4 rfl _ _ _) rfl ?_
  exact ⟨by simp only [addI3]; rfl, rfl⟩
theorem rlft_16 (x : Int) (w : World) (hx : R32 x) : Calls Tryz.prog 114 #[.int .u32 x, .int .i64 16] w fun e w' => e = .returned (.int .u32 (lft x 16)) ∧ w = w' := rleft_any x 16 w hx (by omega) (by omega)
theorem rlft_12 (x : Int) (w : World) (hx : R32 x) : Calls Tryz.prog 114 #[.int .u32 x, .int .i64 12] w fun e w' => e = .returned (.int .u32 (lft x 12)) ∧ w = w' := rleft_any x 12 w hx (by omega) (by omega)
theorem rlft_8 (x : Int) (w : World) (hx : R32 x) : Calls Tryz.prog 114 #[.int .u32 x, .int .i64 8] w fun e w' => e = .returned (.int .u32 (lft x 8)) ∧ w = w' := rleft_any x 8 w hx (by omega) (by omega)
theorem rlft_7 (x : Int) (w : World) (hx : R32 x) : Calls Tryz.prog 114 #[.int .u32 x, .int .i64 7] w fun e w' => e = .returned (.int .u32 (lft x 7)) ∧ w = w' := rleft_any x 7 w hx (by omega) (by omega)
theorem rquarter_any (a b c d : Int) (w : World) :
    Calls Tryz.prog 107 #[.int .u32 a, .int .u32 b, .int .u32 c, .int .u32 d] w fun e w' => e = .returned (.tuple #[.int .u32 (qr a b c d).1, .int .u32 (qr a b c d).2.1, .int .u32 (qr a b c d).2.2.1, .int .u32 (qr a b c d).2.2.2]) ∧ w = w' := by
  go_enter Tryz.func107, Tryz.ntmps107
  go_wp2_with fail
  refine (rlft_16 _ _ (r32_bits _ _ _)).mono ?_
  rintro e w' ⟨rfl, rfl⟩
  go_wp2_with fail
  refine (rlft_12 _ _ (r32_bits _ _ _)).mono ?_
  rintro e w' ⟨rfl, rfl⟩
  go_wp2_with fail
  refine (rlft_8 _ _ (r32_bits _ _ _)).mono ?_
  rintro e w' ⟨rfl, rfl⟩
  go_wp2_with fail
  refine (rlft_7 _ _ (r32_bits _ _ _)).mono ?_
  rintro e w' ⟨rfl, rfl⟩
  go_wp2_with fail
  refine bodyPost_ret (results_tmp4 rfl _ _ _) rfl ?_
  exact ⟨by simp only [addI3]; rfl, rfl⟩
end Go.Proofs.YtjelacblnjbfgaaGreatDoor.Cha
namespace Go.Proofs.YtjelacblnjbfgaaGreatDoor.Cha
open Go.RowKit Mem Help Go.Proofs.YtjelacblnjbfgaaGreatDoor.Sum Cc
attribute [local irreducible] wpList wpListIn
def le4 (z0 z1 z2 z3 : Int) : Int := ((z3 * 256 + z2) * 256 + z1) * 256 + z0
theorem word_join {z0 z1 z2 z3 : Int} (h0 : 0 ≤ z0 ∧ z0 ≤ 255) (h1 : 0 ≤ z1 ∧ z1 ≤ 255) (h2 : 0 ≤ z2 ∧ z2 ≤ 255) (h3 : 0 ≤ z3 ∧ z3 ≤ 255) :
    bits .or .u32 (bits .or .u32 (bits .or .u32 z0 (z1 * 256)) (z2 * 65536)) (z3 * 16777216) = le4 z0 z1 z2 z3 := by
  have hw : ∀ n : Int, 0 ≤ n → n < 2 ^ 32 → IntKind.u32.wrap n = n := fun n h1 h2 => by rw [IntKind.wrap_u32]; omega
  rw [bits_join_low .u32 32 (by decide) hw 8 z0 (z1 * 256) (by omega) (by omega) (by omega) (by omega) (by omega) (by omega),
    bits_join_low .u32 32 (by decide) hw 16 (z0 + z1 * 256) (z2 * 65536) (by omega) (by omega) (by omega) (by omega) (by omega) (by omega),
    bits_join_low .u32 32 (by decide) hw 24 (z0 + z1 * 256 + z2 * 65536) (z3 * 16777216) (by omega) (by omega) (by omega) (by omega) (by omega) (by omega)]
  unfold le4
  omega
theorem word_any (g off n c : Nat) (B : Nat) (zs : List Int) (w : World) (h : Ints w .u8 B (some ⟨g, off, none⟩) n zs) (hn : n = 4) :
    Calls Tryz.prog 109 #[.slice (some ⟨g, off, none⟩) n c] w fun e w' => e = .returned (.int .u32 (le4 (zs.getD 0 0) (zs.getD 1 0) (zs.getD 2 0) (zs.getD 3 0))) ∧ Still w w' := by
  subst hn
  have b0 := wf_u8 (h.range (i := 0) (by omega))
  have b1 := wf_u8 (h.range (i := 1) (by omega))
  have b2 := wf_u8 (h.range (i := 2) (by omega))
  have b3 := wf_u8 (h.range (i := 3) (by omega))
  obtain ⟨_, _, e0, _, c0⟩ := h.at_ (i := 0) (by omega)
  cases e0
  obtain ⟨_, _, e0, _, c1⟩ := h.at_ (i := 1) (by omega)
  cases e0
  obtain ⟨_, _, e0, _, c2⟩ := h.at_ (i := 2) (by omega)
  cases e0
  obtain ⟨_, _, e0, _, c3⟩ := h.at_ (i := 3) (by omega)
  cases e0
  rw [Nat.add_zero] at c0
  have J := Lib.hid (word_join b0 b1 b2 b3)
  generalize zs.getD 0 0 = z0 at *
  generalize zs.getD 1 0 = z1 at *
  generalize zs.getD 2 0 = z2 at *
  generalize zs.getD 3 0 = z3 at *
  clear h
  go_enter Tryz.func109, Tryz.ntmps109
  go_wp2_with fail
  go_quiet (fail)
  go_wp2_with fail
  go_ret
  exact ⟨ret_int J.out, ⟨_, rfl⟩⟩
theorem rword_any (g off n c : Nat) (B : Nat) (zs : List Int) (w : World) (h : Ints w .u8 B (some ⟨g, off, none⟩) n zs) (hn : n = 4) :
    Calls Tryz.prog 91 #[.slice (some ⟨g, off, none⟩) n c] w fun e w' => e = .returned (.int .u32 (le4 (zs.getD 0 0) (zs.getD 1 0) (zs.getD 2 0) (zs.getD 3 0))) ∧ Still w w' := by
  subst hn
  have b0 := wf_u8 (h.range (i := 0) (by omega))
  have b1 := wf_u8 (h.range (i := 1) (by omega))
  have b2 := wf_u8 (h.range (i := 2) (by omega))
  have b3 := wf_u8 (h.range (i := 3) (by omega))
  obtain ⟨_, _, e0, _, c0⟩ := h.at_ (i := 0) (by omega)
  cases e0
  obtain ⟨_, _, e0, _, c1⟩ := h.at_ (i := 1) (by omega)
  cases e0
  obtain ⟨_, _, e0, _, c2⟩ := h.at_ (i := 2) (by omega)
  cases e0
  obtain ⟨_, _, e0, _, c3⟩ := h.at_ (i := 3) (by omega)
  cases e0
  rw [Nat.add_zero] at c0
  have J := Lib.hid (word_join b0 b1 b2 b3)
  generalize zs.getD 0 0 = z0 at *
  generalize zs.getD 1 0 = z1 at *
  generalize zs.getD 2 0 = z2 at *
  generalize zs.getD 3 0 = z3 at *
  clear h
  go_enter Tryz.func91, Tryz.ntmps91
  go_wp2_with fail
  go_quiet (fail)
  go_wp2_with fail
  go_ret
  exact ⟨ret_int J.out, ⟨_, rfl⟩⟩
def put4 (zs : List Int) (off : Nat) (n : Int) : List Int := (((zs.set off (n % 256)).set (off + 1) (n / 256 % 256)).set (off + 2) (n / 65536 % 256)).set (off + 3) (n / 16777216 % 256)
theorem put_any (g off c : Nat) (ty : TypeId) (zs : List Int) (n : Int) (w : World) (h : Row w g ty .u8 zs) (hl : off + 4 ≤ zs.length) (hn : R32 n) :
    Calls Tryz.prog 102 #[.slice (some ⟨g, off, none⟩) 4 c, .int .u32 n] w fun e w' => (∃ v, e = .returned v) ∧ Row w' g ty .u8 (put4 zs off n) ∧ w.grownBy w' (some g) := by
  have c0 := h.cell (i := off) (by omega)
  have c1 := h.cell (i := off + 1) (by omega)
  have c2 := h.cell (i := off + 2) (by omega)
  have c3 := h.cell (i := off + 3) (by omega)
  have f0 := h.frozen off
  have f1 := h.frozen (off + 1)
  have f2 := h.frozen (off + 2)
  have f3 := h.frozen (off + 3)
  have H := Lib.hid (show Row ((((w.setCell ⟨g, off, none⟩ (.int .u8 (n % 256))).setCell ⟨g, off + 1, none⟩ (.int .u8 (n / 256 % 256))).setCell ⟨g, off + 2, none⟩ (.int .u8 (n / 65536 % 256))).setCell ⟨g, off + 3, none⟩ (.int .u8 (n / 16777216 % 256))) g ty .u8 (put4 zs off n) from
    (((h.set off (wf_byte ⟨by omega, by omega⟩)).set _ (wf_byte ⟨by omega, by omega⟩)).set _ (wf_byte ⟨by omega, by omega⟩)).set _ (wf_byte ⟨by omega, by omega⟩))
  generalize zs.getD off 0 = z0 at *
  generalize zs.getD (off + 1) 0 = z1 at *
  generalize zs.getD (off + 2) 0 = z2 at *
  generalize zs.getD (off + 3) 0 = z3 at *
  clear h
  go_enter Tryz.func102, Tryz.ntmps102
  go_wp2_with fail
  go_end0
  exact ⟨⟨_, rfl⟩, H.out, Lib.grownBy_trans (Lib.grownBy_trans (Lib.grownBy_trans (grown_setCell w g _ _) (grown_setCell _ g _ _)) (grown_setCell _ g _ _)) (grown_setCell _ g _ _)⟩
theorem info_u32 : (Tryz.prog.info? 57).map (·.size) = some 1 := by kernel_rfl
theorem round_set (s : List Int) (i j k l : Nat) : at4 s i j k l = ((((s.set i (qr (s.getD i 0) (s.getD j 0) (s.getD k 0) (s.getD l 0)).1).set j (qr (s.getD i 0) (s.getD j 0) (s.getD k 0) (s.getD l 0)).2.1).set k (qr (s.getD i 0) (s.getD j 0) (s.getD k 0) (s.getD l 0)).2.2.1).set l (qr (s.getD i 0) (s.getD j 0) (s.getD k 0) (s.getD l 0)).2.2.2) := by unfold at4; rfl
theorem info_16 : (Tryz.prog.info? 125).map (·.size) = some 16 := by kernel_rfl
theorem zero_16 : (Tryz.prog.info? 125).bind (·.zero) = some (.agg (arr .u32 (List.replicate 16 0))) := by kernel_rfl
theorem wf_32 {x : Int} (h : R32 x) : (Lit.int .u32 x).wf = true := by
  unfold R32 at h
  simp [Lit.wf, IntKind.min, IntKind.max, IntKind.signed, IntKind.bits]
  omega
set_option maxRecDepth 100000 in
theorem round_any (s : List Int) (i j k l : Nat) (w : World) (hs : Sixteen s) (hi : i < 16) (hj : j < 16) (hk : k < 16) (hl : l < 16) :
    Calls Tryz.prog 92 #[.agg (arr .u32 s), .int .i64 (i : Int), .int .i64 (j : Int), .int .i64 (k : Int), .int .i64 (l : Int)] w fun e w' => e = .returned (.agg (arr .u32 (at4 s i j k l))) ∧ Below w.heap.size w w' := by
  have hwf : ∀ z ∈ s, (Lit.int .u32 z).wf = true := fun z hz => wf_32 (hs.2 z hz)
  have HL := Lib.hid hs.1
  have R := Lib.hid (round_set s i j k l)
  have HS := Lib.hid (hs.at4 i j k l)
  go_enter Tryz.func92, Tryz.ntmps92
  go_wp2_with (first
    | (refine wpList_box_Row (w := w) rfl 125 _ rfl .u32 s rfl hwf ?_; intro w1 r1 g1 z1)
    | (refine wpList_alloc_Row (w := w1) rfl 125 rfl .u32 16 zero_16 ?_; intro w2 r2 g2 z2))
  have b2 : Below w.heap.size w w2 := ((Below.refl _ w).grown g1 (Nat.le_refl _) (by simp)).grown g2 g1.size (by simp)
  have q1 := r1.grown g2 (by simp)
  obtain ⟨g, hg⟩ : ∃ g, w1.heap.size = g := ⟨_, rfl⟩
  have hgw : w.heap.size < g := by rw [← hg]; exact r1.lt
  rw [hg] at r2
  have ci := q1.cell (i := i) (by rw [HL.out]; exact hi)
  have cj := q1.cell (i := j) (by rw [HL.out]; exact hj)
  have ck := q1.cell (i := k) (by rw [HL.out]; exact hk)
  have cl := q1.cell (i := l) (by rw [HL.out]; exact hl)
  have R' := R.out
  clear r1 g1 g2 z1 z2 hs
  generalize s.getD i 0 = x0 at *
  generalize s.getD j 0 = x1 at *
  generalize s.getD k 0 = x2 at *
  generalize s.getD l 0 = x3 at *
  have hi' : (i : Int) < 16 := by omega
  have hj' : (j : Int) < 16 := by omega
  have hk' : (k : Int) < 16 := by omega
  have hl' : (l : Int) < 16 := by omega
  have hi0 : (0 : Int) ≤ (i : Int) := by omega
  have hj0 : (0 : Int) ≤ (j : Int) := by omega
  have hk0 : (0 : Int) ≤ (k : Int) := by omega
  have hl0 : (0 : Int) ≤ (l : Int) := by omega
  go_wp2_with fail
  go_quiet ((go_at_call 107; exact quiet_same (rquarter_any _ _ _ _ _)))
  clear ci cj ck cl
  obtain ⟨w3, hw3⟩ : ∃ w3, w2.drewN nq = w3 := ⟨_, rfl⟩
  have q3 : Row w3 w.heap.size 125 .u32 s := hw3 ▸ q1
  have p3 : Row w3 g 125 .u32 (List.replicate 16 0) := hw3 ▸ r2
  have b3 : Below w.heap.size w w3 := hw3 ▸ below_drewN b2 nq
  rw [hw3]
  obtain ⟨y1, y2, y3, y4⟩ := r32_qr x0 x1 x2 x3
  clear hw3 q1 r2 b2 R
  go_wp2_with (first
    | (refine wpList_store_elem (w := w3) rfl 57 _ _ rfl w.heap.size i rfl 125 .u32 _ _ rfl q3 (by rw [HL.out]; exact hi) info_u32 (wf_32 y1) ?_; intro w4 q4 g4 z4)
    | (refine wpList_store_elem (w := w4) rfl 57 _ _ rfl w.heap.size j rfl 125 .u32 _ _ rfl q4 (by rw [List.length_set, HL.out]; exact hj) info_u32 (wf_32 y2) ?_; intro w5 q5 g5 z5)
    | (refine wpList_store_elem (w := w5) rfl 57 _ _ rfl w.heap.size k rfl 125 .u32 _ _ rfl q5 (by rw [List.length_set, List.length_set, HL.out]; exact hk) info_u32 (wf_32 y3) ?_; intro w6 q6 g6 z6)
    | (refine wpList_store_elem (w := w6) rfl 57 _ _ rfl w.heap.size l rfl 125 .u32 _ _ rfl q6 (by rw [List.length_set, List.length_set, List.length_set, HL.out]; exact hl) info_u32 (wf_32 y4) ?_; intro w7 q7 g7 z7; rw [← R'] at q7; have p7 := (((p3.grown g4 (by intro e; injection e with e; omega)).grown g5 (by intro e; injection e with e; omega)).grown g6 (by intro e; injection e with e; omega)).grown g7 (by intro e; injection e with e; omega))
    | (refine wpList_load_Row (w := w7) rfl 125 _ rfl w.heap.size rfl 125 .u32 _ q7 16 57 Tryz.underlying125 info_16 HS.out.1 ?_)
    | (refine wpList_store_RowTo (w := w7) rfl 125 _ _ rfl g rfl 125 .u32 _ (at4 s i j k l) rfl p7 16 info_16 HS.out.1 (by simp) (fun z hz => wf_32 (HS.out.2 z hz)) ?_; intro w8 q8 g8 z8))
  have b7 : Below w.heap.size w w7 := (((b3.grown g4 b3.size (fun r e => by cases e; omega)).grown g5 (by have := b3.size; have := g4.size; omega) (fun r e => by cases e; omega)).grown g6 (by have := b3.size; have := g4.size; have := g5.size; omega) (fun r e => by cases e; omega)).grown g7 (by have := b3.size; have := g4.size; have := g5.size; have := g6.size; omega) (fun r e => by cases e; omega)
  refine bodyPost_ret (results_Row rfl _ _ g _ _ _ rfl q8 16 57 Tryz.underlying125 info_16 HS.out.1) rfl ?_
  exact ⟨rfl, b7.grown g8 b7.size (fun r e => by cases e; omega)⟩
end Go.Proofs.YtjelacblnjbfgaaGreatDoor.Cha
namespace Go.Proofs.YtjelacblnjbfgaaGreatDoor.Cha
open Go.RowKit Go.Shelf Go.Proofs.YtjelacblnjbfgaaGreatDoor Mem Help Go.Proofs.YtjelacblnjbfgaaGreatDoor.Sum Cc Sha
attribute [local irreducible] wpList wpListIn
def Upto (F : List Int) (m : Nat) (zs : List Int) : Prop := zs.length = F.length ∧ ∀ i, i < m → zs.getD i 0 = F.getD i 0
theorem Upto.set {F zs : List Int} {m : Nat} (h : Upto F m zs) (hm : m < F.length) : Upto F (m + 1) (zs.set m (F.getD m 0)) := by
  refine ⟨by rw [List.length_set]; exact h.1, fun i hi => ?_⟩
  by_cases e : i = m
  · subst e
    simp [List.getD_eq_getElem?_getD, h.1, hm]
  · rw [← h.2 i (by omega)]
    simp only [List.getD_eq_getElem?_getD, List.getElem?_set]
    rw [if_neg (by omega)]
theorem Upto.eq {F zs : List Int} {m : Nat} (h : Upto F m zs) (hm : F.length ≤ m) : zs = F := list_eq h.1 fun i hi => h.2 i (by have := h.1; omega)
theorem first_key (key : List Int) (ctr : Int) (nonce : List Int) {t : Nat} (ht : t < 8) : (first key ctr nonce).getD (4 + t) 0 = lew key t := by
  simp only [first, List.getD_eq_getElem?_getD]
  rw [List.getElem?_append_right (by simp [sigma]), List.getElem?_append_left (by simp [sigma]; omega)]
  simp [sigma, ht]
theorem first_ctr (key : List Int) (ctr : Int) (nonce : List Int) : (first key ctr nonce).getD 12 0 = ctr := by
  simp only [first, List.getD_eq_getElem?_getD]
  rw [List.getElem?_append_right (by simp [sigma]), List.getElem?_append_right (by simp [sigma])]
  simp [sigma]
theorem first_nonce (key : List Int) (ctr : Int) (nonce : List Int) {t : Nat} (ht : t < 3) : (first key ctr nonce).getD (13 + t) 0 = lew nonce t := by
  simp only [first, List.getD_eq_getElem?_getD]
  rw [List.getElem?_append_right (by simp [sigma]; omega), List.getElem?_append_right (by simp [sigma]; omega)]
  have e : 13 + t - sigma.length - (List.map (lew key) (List.range 8)).length = t + 1 := by simp [sigma]; omega
  rw [e]
  simp [ht]
theorem first_sigma (key : List Int) (ctr : Int) (nonce : List Int) : Upto (first key ctr nonce) 4 (laidOver (List.replicate 16 0) 0 sigma) := by
  refine ⟨by rw [laidOver_length _ _ _ (by simp [sigma]), first_length]; simp, fun i hi => ?_⟩
  rw [laidOver_get _ _ _ (by simp [sigma]), if_pos ⟨by omega, by simpa [sigma] using hi⟩]
  simp only [first, List.getD_eq_getElem?_getD]
  rw [List.getElem?_append_left (by simpa [sigma] using hi)]
  rfl
theorem lew_of (xs : List Int) {l : Nat} (t : Nat) (h : 4 * t + 4 ≤ l) (hl : xs.length = l) : le4 (((xs.drop (4 * t)).take 4).getD 0 0) (((xs.drop (4 * t)).take 4).getD 1 0) (((xs.drop (4 * t)).take 4).getD 2 0) (((xs.drop (4 * t)).take 4).getD 3 0) = lew xs t := by
  have e : ∀ j, j < 4 → ((xs.drop (4 * t)).take 4).getD j 0 = xs.getD (4 * t + j) 0 := fun j hj => by
    simp [List.getD_eq_getElem?_getD, List.getElem?_drop, hj]
  rw [e 0 (by omega), e 1 (by omega), e 2 (by omega), e 3 (by omega)]
  rfl
theorem bs_wf {zs : List Int} (h : Bs zs) : ∀ z ∈ zs, (Lit.int .u8 z).wf = true := fun z hz => wf_byte (h z hz)
theorem Tab.ints {w : World} {g : Nat} {zs : List Int} (h : Tab w g zs) (hz : ∀ z ∈ zs, (Lit.int .u32 z).wf = true) : Ints w .u32 w.heap.size (some ⟨g, 0, none⟩) zs.length zs :=
  ⟨rfl, hz, fun _ => ⟨g, 0, rfl, h.lt, fun i hi => by rw [Nat.zero_add]; exact h.cell hi⟩⟩
theorem sigma_wf : ∀ z ∈ sigma, (Lit.int .u32 z).wf = true := by decide
set_option maxRecDepth 100000 in
set_option maxHeartbeats 1000000 in
theorem state_any (key nonce : List Int) (ctr : Int) (w : World) (hk : key.length = 32) (hkb : Bs key) (hn : nonce.length = 12) (hnb : Bs nonce) (hc : R32 ctr) (hT : Tab w 1 sigma) :
    Calls Tryz.prog 100 #[.agg (arr .u8 key), .int .u32 ctr, .agg (arr .u8 nonce)] w fun e w' => e = .returned (.agg (arr .u32 (first key ctr nonce))) ∧ Below w.heap.size w w' := by
  have zero_16 : (Tryz.prog.info? 125).bind (·.zero) = some (.agg (arr .u32 (List.replicate 16 0))) := by kernel_rfl
  have HK := Lib.hid hk
  have HN := Lib.hid hn
  clear hk hn
  have FK := Lib.hid (fun t (ht : t < 8) => first_key key ctr nonce ht)
  have FC := Lib.hid (first_ctr key ctr nonce)
  have FN := Lib.hid (fun t (ht : t < 3) => first_nonce key ctr nonce ht)
  have FL := Lib.hid (first_length key ctr nonce)
  have FS := Lib.hid (sixteen_first hkb hnb hc)
  have LK := Lib.hid (fun t (ht : 4 * t + 4 ≤ 32) => lew_of key t ht HK.out)
  have LN := Lib.hid (fun t (ht : 4 * t + 4 ≤ 12) => lew_of nonce t ht HN.out)
  have RK := Lib.hid (fun t => r32_lew hkb t)
  have RN := Lib.hid (fun t => r32_lew hnb t)
  obtain ⟨F, hF⟩ : ∃ F, first key ctr nonce = F := ⟨_, rfl⟩
  have u4 := first_sigma key ctr nonce
  rw [hF] at u4 FC FL FS
  simp only [hF] at FK FN
  have HF := Lib.hid hF
  clear hF
  go_enter Tryz.func100, Tryz.ntmps100
  go_wp2_with (first
    | (refine wpList_box_Row (w := w) rfl 22 _ rfl .u8 key rfl (bs_wf hkb) ?_; intro w1 r1 g1 z1)
    | (refine wpList_box_Row (w := w1) rfl 45 _ rfl .u8 nonce rfl (bs_wf hnb) ?_; intro w2 r2 g2 z2)
    | (refine wpList_alloc_Row (w := w2) rfl 125 rfl .u32 16 zero_16 ?_; intro w3 r3 g3 z3)
    | (refine wpList_alloc_Row (w := w3) rfl 125 rfl .u32 16 zero_16 ?_; intro w4 r4 g4 z4))
  obtain ⟨gn, hgn⟩ : ∃ g, w1.heap.size = g := ⟨_, rfl⟩
  obtain ⟨gr, hgr⟩ : ∃ g, w2.heap.size = g := ⟨_, rfl⟩
  obtain ⟨gs, hgs⟩ : ∃ g, w3.heap.size = g := ⟨_, rfl⟩
  have l1 := r1.lt
  have l2 := r2.lt
  have l3 := r3.lt
  have b4 : Below w.heap.size w w4 := ((((Below.refl _ w).grown g1 (Nat.le_refl _) (by simp)).grown g2 g1.size (by simp)).grown g3 (by omega) (by simp)).grown g4 (by omega) (by simp)
  have k4 := ((r1.grown g2 (by simp)).grown g3 (by simp)).grown g4 (by simp)
  have n4 := (r2.grown g3 (by simp)).grown g4 (by simp)
  have e4 := r3.grown g4 (by simp)
  rw [hgn] at l1 l2 n4
  rw [hgr] at l2 l3 e4
  rw [hgs] at l3 r4
  rw [hgn, hgr, hgs]
  clear hgn hgr hgs r1 r2 r3 g1 g2 g3 g4 z1 z2 z3 z4
  have hT4 := hT.below b4 hT.lt
  have iT := Tab.ints hT4 sigma_wf
  simp only [Act.put, Z1, Z2, Z3]
  refine wp_region_held (S := fun _ => True) (by kernel_rfl) ?_
  change wpAnyH _ _ _ _ _ _ _ _ w4.drew
  have c0 : True := trivial
  refine Held.tk (v := .slice (some ⟨gs, 0, none⟩) 16 16) 0 (some 10) rfl (Held.y_slice rfl (fun W => run_slice_arr_all (P := Tryz.prog) 125 57 16 gs W Tryz.underlying125 (by kernel_rfl) (by omega))) c0 ?_
  simp only [Act.put, Z1, Z2, Z3]
  refine Held.tk (v := .slice (some ⟨1, 0, none⟩) 4 4) 1 (some 11) rfl (Held.y_slice rfl (fun W => run_slice_arr_all (P := Tryz.prog) 144 57 4 1 W Tryz.underlying144 (by kernel_rfl) (by omega))) c0 ?_
  simp only [Act.put, Z1, Z2, Z3]
  refine Held.one 2 (by kernel_rfl) ?_
  refine Held.op_copy_Row 2 (some 12) 143 143 rfl rfl rfl rfl 57 Tryz.underlying143 info_u32 gs 0 16 16 w4.heap.size (some ⟨1, 0, none⟩) 4 4 rfl rfl 125 .u32 _ sigma r4 iT (by simp) ?_
  intro w5 r5 g5'
  have g5 : w4.grownBy w5 (some gs) := ⟨g5'.os, g5'.tape, g5'.output, g5'.size, g5'.block⟩
  clear g5'
  rw [List.take_of_length_le (by simp [sigma])] at r5
  refine ⟨trivial, ?_⟩
  simp only [Act.put, Z1, Z2, Z3]
  refine wpAnyH_done (by kernel_rfl) ?_ _
  rw [show ((min 4 16 : Nat) : Int) = 4 from rfl]
  have b5 : Below w.heap.size w w5 := b4.grown g5 b4.size (fun r e => by cases e; omega)
  have k5 := k4.grown g5 (by intro e; injection e with e; omega)
  have n5 := n4.grown g5 (by intro e; injection e with e; omega)
  have e5 := e4.grown g5 (by intro e; injection e with e; omega)
  obtain ⟨z5, hz5⟩ : ∃ z, laidOver (List.replicate 16 0) 0 sigma = z := ⟨_, rfl⟩
  rw [hz5] at r5 u4
  clear hz5 b4 k4 n4 e4 r4 g5 c0 iT hT4
  go_wp2_with fail
  go_loopw [13] (fun i wr => ∃ k : Nat, k ≤ 8 ∧ i = .int .i64 k ∧ Below w.heap.size w wr ∧ Row wr w.heap.size 22 .u8 key ∧ Row wr gn 45 .u8 nonce ∧ Row wr gr 125 .u32 (List.replicate 16 0) ∧ ∃ zs, Row wr gs 125 .u32 zs ∧ Upto F (4 + k) zs) (fun i _ => 8 - (intOf i).toNat)
  case atStart => exact ⟨0, by omega, rfl, b5, k5, n5, e5, z5, r5, u4⟩
  case round =>
    clear b5 k5 n5 e5 r5 u4
    obtain ⟨k, hk, rfl, hbl, kr, nr, er, zs, sr, hu⟩ := hrel
    have hk0 : (0 : Int) ≤ (k : Int) := by omega
    by_cases hlt : k < 8
    · have hlt' : (k : Int) < 8 := by omega
      have hsl : ∀ W, (Instr.sliceAt 22 (.pointer (some ⟨w.heap.size, 0, none⟩)) (some (.int .i64 (4 * (k : Int)))) (some (.int .i64 (4 * (k : Int) + 4))) none).run Tryz.prog W = .ok (.slice (some ⟨w.heap.size, 4 * k, none⟩) 4 (32 - 4 * k)) W := fun W => by
        have := run_slice_arr_lh (P := Tryz.prog) 22 5 32 w.heap.size (4 * k) (4 * k + 4) W Tryz.underlying22 (by kernel_rfl) (by omega) (by omega) (by omega)
        rw [show 4 * k + 4 - 4 * k = 4 by omega] at this
        exact this
      have ik := kr.mid (l := 4 * k) (m := 4) (by rw [HK.out]; omega)
      go_wp2_with fail
      refine (word_any w.heap.size (4 * k) 4 (32 - 4 * k) _ _ wr ik rfl).mono ?_
      rintro e w6 ⟨rfl, st⟩
      rw [LK.out k (by omega), ← FK.out k hlt]
      have kr6 := kr.below (st.below _) kr.lt
      have nr6 := nr.below (st.below _) nr.lt
      have er6 := er.below (st.below _) er.lt
      have sr6 := sr.below (st.below _) sr.lt
      have hb6 := hbl.trans (st.below _)
      have HU := Lib.hid (hu.set (by rw [FL.out]; omega))
      have hr32 : R32 (F.getD (4 + k) 0) := FS.out.get (by omega)
      have HZ := Lib.hid hu.1
      clear ik hsl hbl kr nr er sr
      generalize F.getD (4 + k) 0 = x at *
      go_wp2_with (refine wpList_store_elem (w := w6) rfl 57 _ _ rfl gs (4 + k) rfl 125 .u32 _ _ rfl sr6 (by rw [HZ.out, FL.out]; omega) info_u32 (wf_32 hr32) ?_; intro w7 q7 g7 z7)
      go_roundw
      case rel => exact ⟨k + 1, by omega, by go_num, hb6.grown g7 hb6.size (fun r e => by cases e; omega), kr6.grown g7 (by intro e; injection e with e; omega), nr6.grown g7 (by intro e; injection e with e; omega), er6.grown g7 (by intro e; injection e with e; omega), _, q7, HU.out⟩
      case measure => simp [intOf]; omega
    · have hk8 : k = 8 := by omega
      subst hk8
      have HU := Lib.hid (hu.set (by rw [FL.out]; omega))
      have HZ := Lib.hid hu.1
      rw [FC.out] at HU
      go_wp2_with (refine wpList_store_elem (w := wr) rfl 57 _ _ rfl gs 12 rfl 125 .u32 _ _ rfl sr (by rw [HZ.out, FL.out]; omega) info_u32 (wf_32 hc) ?_; intro w6 sr6 g6 z6)
      have hb6 := hbl.grown g6 hbl.size (fun r e => by cases e; omega)
      have nr6 := nr.grown g6 (by intro e; injection e with e; omega)
      have er6 := er.grown g6 (by intro e; injection e with e; omega)
      have hu6 := HU.out
      clear hbl kr nr er sr g6 z6 hu hk0
      go_loopw [29] (fun i wr => ∃ k : Nat, k ≤ 3 ∧ i = .int .i64 k ∧ Below w.heap.size w wr ∧ Row wr gn 45 .u8 nonce ∧ Row wr gr 125 .u32 (List.replicate 16 0) ∧ ∃ zs, Row wr gs 125 .u32 zs ∧ Upto F (13 + k) zs) (fun i _ => 3 - (intOf i).toNat)
      case atStart => exact ⟨0, by omega, rfl, hb6, nr6, er6, _, sr6, hu6⟩
      case round =>
        clear hb6 nr6 er6 sr6 hu6 HU HZ
        obtain ⟨k, hk, rfl, hbl, nr, er, zs, sr, hu⟩ := hrel
        have hk0 : (0 : Int) ≤ (k : Int) := by omega
        by_cases hlt : k < 3
        · have hlt' : (k : Int) < 3 := by omega
          have hsl : ∀ W, (Instr.sliceAt 45 (.pointer (some ⟨gn, 0, none⟩)) (some (.int .i64 (4 * (k : Int)))) (some (.int .i64 (4 * (k : Int) + 4))) none).run Tryz.prog W = .ok (.slice (some ⟨gn, 4 * k, none⟩) 4 (12 - 4 * k)) W := fun W => by
            have := run_slice_arr_lh (P := Tryz.prog) 45 5 12 gn (4 * k) (4 * k + 4) W Tryz.underlying45 (by kernel_rfl) (by omega) (by omega) (by omega)
            rw [show 4 * k + 4 - 4 * k = 4 by omega] at this
            exact this
          have ik := nr.mid (l := 4 * k) (m := 4) (by rw [HN.out]; omega)
          go_wp2_with fail
          refine (word_any gn (4 * k) 4 (12 - 4 * k) _ _ wr ik rfl).mono ?_
          rintro e w6 ⟨rfl, st⟩
          rw [LN.out k (by omega), ← FN.out k hlt]
          have nr6 := nr.below (st.below _) nr.lt
          have er6 := er.below (st.below _) er.lt
          have sr6 := sr.below (st.below _) sr.lt
          have hb6 := hbl.trans (st.below _)
          have HU := Lib.hid (hu.set (by rw [FL.out]; omega))
          have hr32 : R32 (F.getD (13 + k) 0) := FS.out.get (by omega)
          have HZ := Lib.hid hu.1
          clear ik hsl hbl nr er sr
          generalize F.getD (13 + k) 0 = x at *
          go_wp2_with (refine wpList_store_elem (w := w6) rfl 57 _ _ rfl gs (13 + k) rfl 125 .u32 _ _ rfl sr6 (by rw [HZ.out, FL.out]; omega) info_u32 (wf_32 hr32) ?_; intro w7 q7 g7 z7)
          go_roundw
          case rel => exact ⟨k + 1, by omega, by go_num, hb6.grown g7 hb6.size (fun r e => by cases e; omega), nr6.grown g7 (by intro e; injection e with e; omega), er6.grown g7 (by intro e; injection e with e; omega), _, q7, HU.out⟩
          case measure => simp [intOf]; omega
        · have hk3 : k = 3 := by omega
          subst hk3
          have hz := hu.eq (by rw [FL.out]; omega)
          subst hz
          go_wp2_with (first
            | (refine wpList_load_Row (w := wr) rfl 125 _ rfl gs rfl 125 .u32 _ sr 16 57 Tryz.underlying125 info_16 FL.out ?_)
            | (refine wpList_store_RowTo (w := wr) rfl 125 _ _ rfl gr rfl 125 .u32 _ zs rfl er 16 info_16 FL.out (by simp) (fun z hz => wf_32 (FS.out.2 z hz)) ?_; intro w8 q8 g8 z8))
          refine bodyPost_ret (results_Row rfl _ _ gr _ _ _ rfl q8 16 57 Tryz.underlying125 info_16 FL.out) rfl ?_
          exact ⟨by rw [HF.out], hbl.grown g8 hbl.size (fun r e => by cases e; omega)⟩
end Go.Proofs.YtjelacblnjbfgaaGreatDoor.Cha
namespace Go.Proofs.YtjelacblnjbfgaaGreatDoor.Cha
open Go.RowKit Go.Shelf Go.Proofs.YtjelacblnjbfgaaGreatDoor Mem Help Go.Proofs.YtjelacblnjbfgaaGreatDoor.Sum Cc Sha
attribute [local irreducible] wpList wpListIn
theorem sixteen_out {s : List Int} (h : s.length = 16) : ∃ a0 a1 a2 a3 a4 a5 a6 a7 a8 a9 a10 a11 a12 a13 a14 a15, s = [a0, a1, a2, a3, a4, a5, a6, a7, a8, a9, a10, a11, a12, a13, a14, a15] := by
  rcases s with _ | ⟨a0, _ | ⟨a1, _ | ⟨a2, _ | ⟨a3, _ | ⟨a4, _ | ⟨a5, _ | ⟨a6, _ | ⟨a7, _ | ⟨a8, _ | ⟨a9, _ | ⟨a10, _ | ⟨a11, _ | ⟨a12, _ | ⟨a13, _ | ⟨a14, _ | ⟨a15, _ | ⟨a16, s⟩⟩⟩⟩⟩⟩⟩⟩⟩⟩⟩⟩⟩⟩⟩⟩⟩ <;> first | (simp at h; done) | exact ⟨_, _, _, _, _, _, _, _, _, _, _, _, _, _, _, _, rfl⟩
theorem columns_list (a0 a1 a2 a3 a4 a5 a6 a7 a8 a9 a10 a11 a12 a13 a14 a15 : Int) : columns [a0, a1, a2, a3, a4, a5, a6, a7, a8, a9, a10, a11, a12, a13, a14, a15] =
    [(qr a0 a4 a8 a12).1, (qr a1 a5 a9 a13).1, (qr a2 a6 a10 a14).1, (qr a3 a7 a11 a15).1, (qr a0 a4 a8 a12).2.1, (qr a1 a5 a9 a13).2.1, (qr a2 a6 a10 a14).2.1, (qr a3 a7 a11 a15).2.1,
     (qr a0 a4 a8 a12).2.2.1, (qr a1 a5 a9 a13).2.2.1, (qr a2 a6 a10 a14).2.2.1, (qr a3 a7 a11 a15).2.2.1, (qr a0 a4 a8 a12).2.2.2, (qr a1 a5 a9 a13).2.2.2, (qr a2 a6 a10 a14).2.2.2, (qr a3 a7 a11 a15).2.2.2] := by
  unfold columns at4
  rfl
theorem diagonals_list (a0 a1 a2 a3 a4 a5 a6 a7 a8 a9 a10 a11 a12 a13 a14 a15 : Int) : diagonals [a0, a1, a2, a3, a4, a5, a6, a7, a8, a9, a10, a11, a12, a13, a14, a15] =
    [(qr a0 a5 a10 a15).1, (qr a1 a6 a11 a12).1, (qr a2 a7 a8 a13).1, (qr a3 a4 a9 a14).1, (qr a3 a4 a9 a14).2.1, (qr a0 a5 a10 a15).2.1, (qr a1 a6 a11 a12).2.1, (qr a2 a7 a8 a13).2.1,
     (qr a2 a7 a8 a13).2.2.1, (qr a3 a4 a9 a14).2.2.1, (qr a0 a5 a10 a15).2.2.1, (qr a1 a6 a11 a12).2.2.1, (qr a1 a6 a11 a12).2.2.2, (qr a2 a7 a8 a13).2.2.2, (qr a3 a4 a9 a14).2.2.2, (qr a0 a5 a10 a15).2.2.2] := by
  unfold diagonals at4
  rfl
set_option maxRecDepth 100000 in
set_option maxHeartbeats 2000000 in
theorem mixed_any (s : List Int) (w : World) (hs : Sixteen s) :
    Calls Tryz.prog 101 #[.agg (arr .u32 s)] w fun e w' => e = .returned (.agg (arr .u32 (turns 10 s))) ∧ Below w.heap.size w w' := by
  have zero_16 : (Tryz.prog.info? 125).bind (·.zero) = some (.agg (arr .u32 (List.replicate 16 0))) := by kernel_rfl
  have hwf : ∀ z ∈ s, (Lit.int .u32 z).wf = true := fun z hz => wf_32 (hs.2 z hz)
  have HL := Lib.hid hs.1
  have HT := Lib.hid (fun k => (hs.turns k))
  obtain ⟨a0, a1, a2, a3, a4, a5, a6, a7, a8, a9, a10, a11, a12, a13, a14, a15, he⟩ := sixteen_out hs.1
  have H0 : Hid (turns 0 s = [a0, a1, a2, a3, a4, a5, a6, a7, a8, a9, a10, a11, a12, a13, a14, a15]) := Lib.hid he
  have HE := Lib.hid he
  clear he hs
  go_enter Tryz.func101, Tryz.ntmps101
  go_wp2_with (first
    | (refine wpList_box_Row (w := w) rfl 125 _ rfl .u32 s rfl hwf ?_; intro w1 r1 g1 z1)
    | (refine wpList_alloc_Row (w := w1) rfl 125 rfl .u32 16 zero_16 ?_; intro w2 r2 g2 z2))
  have b2 : Below w.heap.size w w2 := ((Below.refl _ w).grown g1 (Nat.le_refl _) (by simp)).grown g2 g1.size (by simp)
  have q1 := r1.grown g2 (by simp)
  obtain ⟨g, hg⟩ : ∃ g, w1.heap.size = g := ⟨_, rfl⟩
  have hgw : w.heap.size < g := by rw [← hg]; exact r1.lt
  rw [hg] at r2 ⊢
  rw [HE.out] at q1
  have c0 := q1.cell (i := 0) (by simp)
  have c1 := q1.cell (i := 1) (by simp)
  have c2 := q1.cell (i := 2) (by simp)
  have c3 := q1.cell (i := 3) (by simp)
  have c4 := q1.cell (i := 4) (by simp)
  have c5 := q1.cell (i := 5) (by simp)
  have c6 := q1.cell (i := 6) (by simp)
  have c7 := q1.cell (i := 7) (by simp)
  have c8 := q1.cell (i := 8) (by simp)
  have c9 := q1.cell (i := 9) (by simp)
  have c10 := q1.cell (i := 10) (by simp)
  have c11 := q1.cell (i := 11) (by simp)
  have c12 := q1.cell (i := 12) (by simp)
  have c13 := q1.cell (i := 13) (by simp)
  have c14 := q1.cell (i := 14) (by simp)
  have c15 := q1.cell (i := 15) (by simp)
  simp only [List.getD_cons_zero, List.getD_cons_succ] at c0 c1 c2 c3 c4 c5 c6 c7 c8 c9 c10 c11 c12 c13 c14 c15
  clear r1 g1 g2 z1 z2 hg
  go_quiet (fail)
  obtain ⟨m1, rfl⟩ : ∃ m1, m1 = nq := ⟨_, rfl⟩
  go_wp2_with fail
  go_quiet (fail)
  obtain ⟨m2, rfl⟩ : ∃ m2, m2 = nq := ⟨_, rfl⟩
  go_wp2_with fail
  go_quiet (fail)
  obtain ⟨m3, rfl⟩ : ∃ m3, m3 = nq := ⟨_, rfl⟩
  go_wp2_with fail
  go_quiet (fail)
  obtain ⟨w3, hw3⟩ : ∃ w3, (((w2.drewN m1).drewN m2).drewN m3).drewN nq = w3 := ⟨_, rfl⟩
  have r3 : Row w3 g 125 .u32 (List.replicate 16 0) := hw3 ▸ r2
  have b3 : Below w.heap.size w w3 := hw3 ▸ below_drewN (below_drewN (below_drewN (below_drewN b2 _) _) _) _
  rw [hw3]
  clear hw3 c0 c1 c2 c3 c4 c5 c6 c7 c8 c9 c10 c11 c12 c13 c14 c15 r2 b2 q1
  go_wp2_with fail
  go_loopw [3, 4, 5, 6, 7, 8, 9, 10, 11, 12, 13, 14, 15, 16, 17, 18, 51] (fun s0 s1 s2 s3 s4 s5 s6 s7 s8 s9 s10 s11 s12 s13 s14 s15 i wr => ∃ k : Nat, k ≤ 10 ∧ i = .int .i64 k ∧ wr = w3 ∧ ∃ a0 a1 a2 a3 a4 a5 a6 a7 a8 a9 a10 a11 a12 a13 a14 a15 : Int, Hid (turns k s = [a0, a1, a2, a3, a4, a5, a6, a7, a8, a9, a10, a11, a12, a13, a14, a15]) ∧ s0 = .int .u32 a0 ∧ s1 = .int .u32 a1 ∧ s2 = .int .u32 a2 ∧ s3 = .int .u32 a3 ∧ s4 = .int .u32 a4 ∧ s5 = .int .u32 a5 ∧ s6 = .int .u32 a6 ∧ s7 = .int .u32 a7 ∧ s8 = .int .u32 a8 ∧ s9 = .int .u32 a9 ∧ s10 = .int .u32 a10 ∧ s11 = .int .u32 a11 ∧ s12 = .int .u32 a12 ∧ s13 = .int .u32 a13 ∧ s14 = .int .u32 a14 ∧ s15 = .int .u32 a15) (fun _ _ _ _ _ _ _ _ _ _ _ _ _ _ _ _ i _ => 10 - (intOf i).toNat)
  case atStart => exact ⟨0, by omega, rfl, rfl, a0, a1, a2, a3, a4, a5, a6, a7, a8, a9, a10, a11, a12, a13, a14, a15, H0, rfl, rfl, rfl, rfl, rfl, rfl, rfl, rfl, rfl, rfl, rfl, rfl, rfl, rfl, rfl, rfl⟩
  case round =>
    clear H0 HE
    obtain ⟨k, hk, rfl, rfl, a0, a1, a2, a3, a4, a5, a6, a7, a8, a9, a10, a11, a12, a13, a14, a15, HK, rfl, rfl, rfl, rfl, rfl, rfl, rfl, rfl, rfl, rfl, rfl, rfl, rfl, rfl, rfl, rfl⟩ := hrel
    have hk0 : (0 : Int) ≤ (k : Int) := by omega
    by_cases hlt : k < 10
    · have hlt' : (k : Int) < 10 := by omega
      have HK1 : Hid (turns (k + 1) s = twice [a0, a1, a2, a3, a4, a5, a6, a7, a8, a9, a10, a11, a12, a13, a14, a15]) := Lib.hid (by show twice (turns k s) = _; rw [HK.out])
      rw [show twice [a0, a1, a2, a3, a4, a5, a6, a7, a8, a9, a10, a11, a12, a13, a14, a15] = diagonals (columns [a0, a1, a2, a3, a4, a5, a6, a7, a8, a9, a10, a11, a12, a13, a14, a15]) from rfl, columns_list, diagonals_list] at HK1
      go_wp2_with fail
      refine (quarter_any _ _ _ _ _).mono ?_
      rintro e w' ⟨rfl, rfl⟩
      go_wp2_with fail
      refine (quarter_any _ _ _ _ _).mono ?_
      rintro e w' ⟨rfl, rfl⟩
      go_wp2_with fail
      refine (quarter_any _ _ _ _ _).mono ?_
      rintro e w' ⟨rfl, rfl⟩
      go_wp2_with fail
      refine (quarter_any _ _ _ _ _).mono ?_
      rintro e w' ⟨rfl, rfl⟩
      go_wp2_with fail
      refine (quarter_any _ _ _ _ _).mono ?_
      rintro e w' ⟨rfl, rfl⟩
      go_wp2_with fail
      refine (quarter_any _ _ _ _ _).mono ?_
      rintro e w' ⟨rfl, rfl⟩
      go_wp2_with fail
      refine (quarter_any _ _ _ _ _).mono ?_
      rintro e w' ⟨rfl, rfl⟩
      go_wp2_with fail
      refine (quarter_any _ _ _ _ _).mono ?_
      rintro e w' ⟨rfl, rfl⟩
      go_wp2_with fail
      go_roundw
      case rel => exact ⟨k + 1, by omega, by go_num, by trivial, _, _, _, _, _, _, _, _, _, _, _, _, _, _, _, _, HK1, rfl, rfl, rfl, rfl, rfl, rfl, rfl, rfl, rfl, rfl, rfl, rfl, rfl, rfl, rfl, rfl⟩
      case measure => simp [intOf]; omega
    · have hk10 : k = 10 := by omega
      subst hk10
      have HT10 := HT.out 10
      have HK10 := HK.out
      clear HT
      rw [HK10] at HT10
      go_wp2_with (refine wpList_store_RowTo (w := wr) rfl 125 _ _ rfl g rfl 125 .u32 _ [a0, a1, a2, a3, a4, a5, a6, a7, a8, a9, a10, a11, a12, a13, a14, a15] rfl r3 16 info_16 rfl (by simp) (fun z hz => wf_32 (HT10.2 z hz)) ?_; intro w8 q8 g8 z8)
      refine bodyPost_ret (results_Row rfl _ _ g _ _ _ rfl q8 16 57 Tryz.underlying125 info_16 rfl) rfl ?_
      exact ⟨by rw [HK10], b3.grown g8 b3.size (fun r e => by cases e; omega)⟩
theorem upto_put4 {F zs : List Int} {m : Nat} {n : Int} (h : Upto F m zs) (hm : m + 4 ≤ F.length) (h0 : F.getD m 0 = n % 256) (h1 : F.getD (m + 1) 0 = n / 256 % 256) (h2 : F.getD (m + 2) 0 = n / 65536 % 256) (h3 : F.getD (m + 3) 0 = n / 16777216 % 256) : Upto F (m + 4) (put4 zs m n) := by
  unfold put4
  rw [← h0, ← h1, ← h2, ← h3]
  exact (((h.set (by omega)).set (by omega)).set (by omega)).set (by omega)
theorem addI_comm (x y : Int) : addI x y = addI y x := by unfold addI; rw [Int.add_comm]
theorem block_get (key : List Int) (ctr : Int) (nonce : List Int) {i : Nat} (hi : i < 64) : (Cc.block key ctr nonce).getD i 0 = Cc.byteOf (turns 10 (first key ctr nonce)) (first key ctr nonce) i := by simp [Cc.block, List.getD_eq_getElem?_getD, hi]
theorem byteOf_at (v s : List Int) (k j : Nat) (hj : j < 4) : Cc.byteOf v s (4 * k + j) = addI (s.getD k 0) (v.getD k 0) / 2 ^ (8 * j) % 256 := by
  unfold Cc.byteOf
  rw [show (4 * k + j) / 4 = k by omega, show (4 * k + j) % 4 = j by omega, addI_comm]
theorem block_step {key : List Int} {ctr : Int} {nonce zs : List Int} {k : Nat} (hk : k < 16) (h : Upto (Cc.block key ctr nonce) (4 * k) zs) : Upto (Cc.block key ctr nonce) (4 * (k + 1)) (put4 zs (4 * k) (addI ((first key ctr nonce).getD k 0) ((turns 10 (first key ctr nonce)).getD k 0))) := by
  rw [show 4 * (k + 1) = 4 * k + 4 by omega]
  refine upto_put4 (m := 4 * k) h (by rw [block_length]; omega) ?_ ?_ ?_ ?_
  · rw [block_get _ _ _ (by omega)]; have := byteOf_at (turns 10 (first key ctr nonce)) (first key ctr nonce) k 0 (by omega); simpa using this
  · rw [block_get _ _ _ (by omega)]; exact byteOf_at (turns 10 (first key ctr nonce)) (first key ctr nonce) k 1 (by omega)
  · rw [block_get _ _ _ (by omega)]; exact byteOf_at (turns 10 (first key ctr nonce)) (first key ctr nonce) k 2 (by omega)
  · rw [block_get _ _ _ (by omega)]; exact byteOf_at (turns 10 (first key ctr nonce)) (first key ctr nonce) k 3 (by omega)
theorem info_64 : (Tryz.prog.info? 88).map (·.size) = some 64 := by kernel_rfl
theorem zero_64 : (Tryz.prog.info? 88).bind (·.zero) = some (.agg (arr .u8 (List.replicate 64 0))) := by kernel_rfl
set_option maxRecDepth 100000 in
set_option maxHeartbeats 2000000 in
theorem block_any (key nonce : List Int) (ctr : Int) (w : World) (hk : key.length = 32) (hkb : Bs key) (hn : nonce.length = 12) (hnb : Bs nonce) (hc : R32 ctr) (hT : Tab w 1 sigma) :
    Calls Tryz.prog 78 #[.agg (arr .u8 key), .int .u32 ctr, .agg (arr .u8 nonce)] w fun e w' => e = .returned (.agg (arr .u8 (Cc.block key ctr nonce))) ∧ Below w.heap.size w w' := by
  have zero_16 : (Tryz.prog.info? 125).bind (·.zero) = some (.agg (arr .u32 (List.replicate 16 0))) := by kernel_rfl
  have info_32 : (Tryz.prog.info? 22).map (·.size) = some 32 := by kernel_rfl
  have info_12 : (Tryz.prog.info? 45).map (·.size) = some 12 := by kernel_rfl
  have HK := Lib.hid hk
  have HN := Lib.hid hn
  have HS := Lib.hid (sixteen_first hkb hnb hc)
  have HV := Lib.hid ((sixteen_first hkb hnb hc).turns 10)
  have HB := Lib.hid (fun k zs (h1 : k < 16) (h2 : Upto (Cc.block key ctr nonce) (4 * k) zs) => block_step (key := key) (ctr := ctr) (nonce := nonce) h1 h2)
  have HBL := Lib.hid (block_length key ctr nonce)
  have HBW := Lib.hid (block_bytes key ctr nonce)
  clear hk hn
  go_enter Tryz.func78, Tryz.ntmps78
  go_wp2_with (first
    | (refine wpList_box_Row (w := w) rfl 22 _ rfl .u8 key rfl (bs_wf hkb) ?_; intro w1 r1 g1 z1)
    | (refine wpList_box_Row (w := w1) rfl 45 _ rfl .u8 nonce rfl (bs_wf hnb) ?_; intro w2 r2 g2 z2)
    | (refine wpList_alloc_Row (w := w2) rfl 88 rfl .u8 64 zero_64 ?_; intro w3 r3 g3 z3; have k3 := (r1.grown g2 (by simp)).grown g3 (by simp); have n3 := r2.grown g3 (by simp))
    | (refine wpList_load_Row (w := w3) rfl 22 _ rfl w.heap.size rfl 22 .u8 _ k3 32 5 Tryz.underlying22 info_32 HK.out ?_)
    | (refine wpList_load_Row (w := w3) rfl 45 _ rfl w1.heap.size rfl 45 .u8 _ n3 12 5 Tryz.underlying45 info_12 HN.out ?_))
  have b3 : Below w.heap.size w w3 := (((Below.refl _ w).grown g1 (Nat.le_refl _) (by simp)).grown g2 g1.size (by simp)).grown g3 (by have := g1.size; have := g2.size; omega) (by simp)
  obtain ⟨gn, hgn⟩ : ∃ g, w1.heap.size = g := ⟨_, rfl⟩
  obtain ⟨gr, hgr⟩ : ∃ g, w2.heap.size = g := ⟨_, rfl⟩
  have l1 := r1.lt
  have l2 := r2.lt
  have l3 := r3.lt
  rw [hgn] at l1 l2
  rw [hgr] at r3 l2 l3
  rw [hgn, hgr]
  clear hgn hgr r1 r2 g1 g2 g3 z1 z2 z3 k3 n3
  refine (state_any key nonce ctr w3 HK.out hkb HN.out hnb hc (hT.below b3 hT.lt)).mono ?_
  rintro e w4 ⟨rfl, hb4⟩
  have b4 := b3.trans (hb4.mono b3.size)
  have r4 := r3.below hb4 r3.lt
  have l4 := r4.lt
  clear hb4 b3 r3 l3
  obtain ⟨F, hF⟩ : ∃ F, first key ctr nonce = F := ⟨_, rfl⟩
  have HB' := HB.out
  have HS' := HS.out
  have HV' := HV.out
  clear HB HS HV
  rw [hF] at HS' HV' ⊢
  simp only [hF] at HB'
  clear hF
  have HB := Lib.hid HB'
  have HS := Lib.hid HS'
  clear HB' HS'
  go_wp2_with (first
    | (refine wpList_alloc_Row (w := w4) rfl 125 rfl .u32 16 zero_16 ?_; intro w5 r5 g5 z5)
    | (refine wpList_store_RowTo (w := w5) rfl 125 _ _ rfl w4.heap.size rfl 125 .u32 _ F rfl r5 16 info_16 HS.out.1 (by simp) (fun z hz => wf_32 (HS.out.2 z hz)) ?_; intro w6 r6 g6 z6)
    | (refine wpList_load_Row (w := w6) rfl 125 _ rfl w4.heap.size rfl 125 .u32 _ r6 16 57 Tryz.underlying125 info_16 HS.out.1 ?_))
  obtain ⟨gf, hgf⟩ : ∃ g, w4.heap.size = g := ⟨_, rfl⟩
  have b6 : Below w.heap.size w w6 := (b4.grown g5 b4.size (by simp)).grown g6 (by have := b4.size; have := g5.size; omega) (fun r e => by have := b4.size; cases e; omega)
  have q6 := (r4.grown g5 (by simp)).grown g6 (by intro e; injection e with e; omega)
  have l6 := r6.lt
  rw [hgf] at l4 r6 l6 ⊢
  clear hgf r4 r5 g5 g6 z5 z6
  refine (mixed_any F w6 HS.out).mono ?_
  rintro e w7 ⟨rfl, hb7⟩
  have b7 := b6.trans (hb7.mono b6.size)
  have q7 := q6.below hb7 q6.lt
  have f7 := r6.below hb7 r6.lt
  have l7 := f7.lt
  clear hb7 b6 q6 r6 l6
  obtain ⟨V, hV⟩ : ∃ V, turns 10 F = V := ⟨_, rfl⟩
  rw [hV] at HV' ⊢
  have HB' := HB.out
  simp only [hV] at HB'
  clear HB hV
  have HB := Lib.hid HB'
  have HV := Lib.hid HV'
  clear HB' HV'
  go_wp2_with (first
    | (refine wpList_alloc_Row (w := w7) rfl 125 rfl .u32 16 zero_16 ?_; intro w8 r8 g8 z8)
    | (refine wpList_store_RowTo (w := w8) rfl 125 _ _ rfl w7.heap.size rfl 125 .u32 _ V rfl r8 16 info_16 HV.out.1 (by simp) (fun z hz => wf_32 (HV.out.2 z hz)) ?_; intro w9 r9 g9 z9)
    | (refine wpList_alloc_Row (w := w9) rfl 88 rfl .u8 64 zero_64 ?_; intro wa ra ga za; have v9 := r9.grown ga (by simp))
    | (refine wpList_load_Row (w := wa) rfl 125 _ rfl w7.heap.size rfl 125 .u32 _ v9 16 57 Tryz.underlying125 info_16 HV.out.1 ?_))
  obtain ⟨gb, hgb⟩ : ∃ g, w9.heap.size = g := ⟨_, rfl⟩
  have s7 := b7.size
  have s8 := g8.size
  have s9 := g9.size
  have z8' := z8.out
  have ba : Below w.heap.size w wa := ((b7.grown g8 s7 (by simp)).grown g9 (by omega) (fun r e => by cases e; omega)).grown ga (by omega) (by simp)
  have qa := ((q7.grown g8 (by simp)).grown g9 (by intro e; injection e with e; omega)).grown ga (by simp)
  have fa := ((f7.grown g8 (by simp)).grown g9 (by intro e; injection e with e; omega)).grown ga (by simp)
  have lb : gf < w9.heap.size := by omega
  rw [hgb] at lb ra ⊢
  clear hgb r8 r9 v9 g8 g9 ga z8 z9 za z8' s7 s8 s9 q7 f7 l7 b7
  have u0 : Upto (Cc.block key ctr nonce) (4 * 0) (List.replicate 64 0) := ⟨by rw [HBL.out]; simp, fun i hi => by omega⟩
  go_loopw [19] (fun i wr => ∃ k : Nat, k ≤ 16 ∧ i = .int .i64 k ∧ Below w.heap.size w wr ∧ Row wr gr 88 .u8 (List.replicate 64 0) ∧ Row wr gf 125 .u32 F ∧ ∃ zs, Row wr gb 88 .u8 zs ∧ Upto (Cc.block key ctr nonce) (4 * k) zs) (fun i _ => 16 - (intOf i).toNat)
  case atStart => exact ⟨0, by omega, rfl, ba, qa, fa, _, ra, u0⟩
  case round =>
    clear ba qa fa ra u0
    obtain ⟨k, hk, rfl, hbl, qr, fr, zs, br, hu⟩ := hrel
    have hk0 : (0 : Int) ≤ (k : Int) := by omega
    by_cases hlt : k < 16
    · have hlt' : (k : Int) < 16 := by omega
      have hidx : ∀ W, (Instr.index 125 (.agg (arr .u32 V)) (.int .i64 (k : Int))).run Tryz.prog W = .ok (.int .u32 (V.getD k 0)) W := fun W => run_index_arr _ 57 16 .u32 V k W Tryz.underlying125 (by kernel_rfl) (by kernel_rfl) HV.out.1 hlt
      have hsl : ∀ W, (Instr.sliceAt 88 (.pointer (some ⟨gb, 0, none⟩)) (some (.int .i64 (4 * (k : Int)))) (some (.int .i64 (4 * (k : Int) + 4))) none).run Tryz.prog W = .ok (.slice (some ⟨gb, 4 * k, none⟩) 4 (64 - 4 * k)) W := fun W => by
        have := run_slice_arr_lh (P := Tryz.prog) 88 5 64 gb (4 * k) (4 * k + 4) W Tryz.underlying88 (by kernel_rfl) (by omega) (by omega) (by omega)
        rw [show 4 * k + 4 - 4 * k = 4 by omega] at this
        exact this
      have HU := Lib.hid (HB.out k zs hlt hu)
      have hzl := hu.1
      rw [HBL.out] at hzl
      have hcf := fr.cell (i := k) (by rw [HS.out.1]; exact hlt)
      have rF : R32 (F.getD k 0) := HS.out.get hlt
      have rV : R32 (V.getD k 0) := HV.out.get hlt
      generalize F.getD k 0 = x at *
      generalize V.getD k 0 = y at *
      go_wp2_with fail
      refine wp_region_held (S := fun W => wr.grownBy W (some gb)) (by kernel_rfl) ?_
      change wpAnyH _ _ _ _ _ _ _ _ wr.drew
      have S0 : wr.grownBy wr.drew (some gb) := ⟨rfl, rfl, rfl, Nat.le_refl _, fun _ _ _ => rfl⟩
      have hw4 : IntKind.i64.wrap (4 * (k : Int)) = 4 * (k : Int) := by rw [IntKind.wrap_i64]; omega
      have hw5 : IntKind.i64.wrap (4 * (k : Int) + 4) = 4 * (k : Int) + 4 := by rw [IntKind.wrap_i64]; omega
      refine Held.tk (v := .int .i64 (k : Int)) 0 (some 23) rfl (Held.y_move rfl rfl) S0 ?_
      simp only [Act.put, Z1, Z2, Z3]
      refine Held.tk (v := .int .i64 (4 * (k : Int))) 1 (some 24) rfl (Held.y_int rfl rfl rfl (fun W => Held.run_mul _ _ hw4 W)) S0 ?_
      simp only [Act.put, Z1, Z2, Z3]
      refine Held.tk (v := .int .i64 (k : Int)) 2 (some 25) rfl (Held.y_move rfl rfl) S0 ?_
      simp only [Act.put, Z1, Z2, Z3]
      refine Held.tk (v := .int .i64 (4 * (k : Int))) 3 (some 26) rfl (Held.y_int rfl rfl rfl (fun W => Held.run_mul _ _ hw4 W)) S0 ?_
      simp only [Act.put, Z1, Z2, Z3]
      refine Held.tk (v := .int .i64 (4 * (k : Int) + 4)) 4 (some 27) rfl (Held.y_int rfl rfl rfl (fun W => Held.run_add _ _ hw5 W)) S0 ?_
      simp only [Act.put, Z1, Z2, Z3]
      refine Held.tk (v := .slice (some ⟨gb, 4 * k, none⟩) 4 (64 - 4 * k)) 5 (some 28) rfl (Held.y_slice rfl hsl) S0 ?_
      simp only [Act.put, Z1, Z2, Z3]
      refine Held.tk (v := .int .i64 (k : Int)) 6 (some 29) rfl (Held.y_move rfl rfl) S0 ?_
      simp only [Act.put, Z1, Z2, Z3]
      refine Held.tk (v := .pointer (some ⟨gf, k, none⟩)) 7 (some 30) rfl (Held.y_addr rfl rfl rfl (fun W => Held.run_addr_arr 125 57 16 gf k .i64 Tryz.underlying125 (by kernel_rfl) hlt W)) S0 ?_
      simp only [Act.put, Z1, Z2, Z3]
      refine Held.tk (v := .int .u32 x) 8 (some 31) rfl (Held.y_load rfl rfl (by kernel_rfl) (fun W hW => (World.cell?_of_block (w := wr) (w' := W) (a := ⟨gf, k, none⟩) (hW.block gf fr.lt (by intro e; injection e with e; omega))).trans hcf)) S0 ?_
      simp only [Act.put, Z1, Z2, Z3]
      refine Held.tk (v := .int .u32 y) 9 (some 32) rfl (Held.y_move rfl rfl) S0 ?_
      simp only [Act.put, Z1, Z2, Z3]
      refine Held.tk (v := .int .u32 (addI x y)) 10 (some 33) rfl (Held.y_int rfl rfl rfl (fun W => Held.run_add _ _ (by rw [IntKind.wrap_u32]; rfl) W)) S0 ?_
      simp only [Act.put, Z1, Z2, Z3]
      refine Held.one 11 (by kernel_rfl) ?_
      refine Held.op_call 11 (some 34) 102 #[.slice (some ⟨gb, 4 * k, none⟩) 4 (64 - 4 * k), .int .u32 (addI x y)] rfl rfl rfl rfl (enters_of Tryz.func102 (by kernel_rfl) rfl) (by simp [Act.eval])
        (put_any gb (4 * k) (64 - 4 * k) _ zs (addI x y) _ br (by omega) (r32_add _ _)) ?_
      rintro e w8 ⟨⟨v, rfl⟩, br8, g8'⟩
      have g8 : wr.grownBy w8 (some gb) := ⟨g8'.os, g8'.tape, g8'.output, g8'.size, g8'.block⟩
      clear g8'
      refine ⟨_, rfl, g8, ?_⟩
      simp only [Act.put, Z1, Z2, Z3]
      refine wpAnyH_done (by kernel_rfl) ?_ _
      go_wp2_with fail
      go_roundw
      case rel => exact ⟨k + 1, by omega, by go_num, hbl.grown g8 hbl.size (fun r e => by cases e; omega), qr.grown g8 (by intro e; injection e with e; omega), fr.grown g8 (by intro e; injection e with e; omega), _, br8, HU.out⟩
      case measure => simp [intOf]; omega
    · have hk16 : k = 16 := by omega
      subst hk16
      have hz := hu.eq (by rw [HBL.out]; omega)
      subst hz
      go_wp2_with (first
        | (refine wpList_load_Row (w := wr) rfl 88 _ rfl gb rfl 88 .u8 _ br 64 5 Tryz.underlying88 info_64 HBL.out ?_)
        | (refine wpList_store_RowTo (w := wr) rfl 88 _ _ rfl gr rfl 88 .u8 _ (Cc.block key ctr nonce) rfl qr 64 info_64 HBL.out (by simp) (bs_wf HBW.out) ?_; intro w8 q8 g8 z8))
      refine bodyPost_ret (results_Row rfl _ _ gr _ _ _ rfl q8 64 5 Tryz.underlying88 info_64 HBL.out) rfl ?_
      exact ⟨rfl, hbl.grown g8 hbl.size (fun r e => by cases e; omega)⟩
end Go.Proofs.YtjelacblnjbfgaaGreatDoor.Cha
