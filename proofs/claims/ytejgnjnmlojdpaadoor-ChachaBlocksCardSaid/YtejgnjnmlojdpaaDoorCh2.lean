/-
  Four bytes as a number and back, and a round at four places, each by its contract. Conditions: the numbers fit their kinds.
-/
import Derived.Test.YtejgnjnmlojdpaaDoorChQ
import Derived.Lib.EndianBits
import Derived.Test.YtejgnjnmlojdpaaDoorElem
import Derived.Lib.BufferOwn
namespace Go.Proofs.YtejgnjnmlojdpaaDoor.Cha
open Go.RowKit Go.Proofs.YtejgnjnmlojdpaaDoor.Mem Go.Proofs.YtejgnjnmlojdpaaDoor.Help Go.Proofs.YtejgnjnmlojdpaaDoor.Sum Go.Proofs.YtejgnjnmlojdpaaDoor.Cc
set_option linter.unusedVariables false
attribute [local irreducible] wpList wpListIn
def le4 (z0 z1 z2 z3 : Int) : Int := ((z3 * 256 + z2) * 256 + z1) * 256 + z0
theorem word_join {z0 z1 z2 z3 : Int} (h0 : 0 ≤ z0 ∧ z0 ≤ 255) (h1 : 0 ≤ z1 ∧ z1 ≤ 255) (h2 : 0 ≤ z2 ∧ z2 ≤ 255) (h3 : 0 ≤ z3 ∧ z3 ≤ 255) :
    bits .or .u32 (bits .or .u32 (bits .or .u32 z0 (z1 * 256)) (z2 * 65536)) (z3 * 16777216) = le4 z0 z1 z2 z3 := by
  have hw : ∀ n : Int, 0 ≤ n → n < 2 ^ 32 → IntKind.u32.wrap n = n := fun n h1 h2 => by rw [IntKind.wrap_u32]; omega
  rw [bits_join_low .u32 32 (by decide) hw 8 z0 (z1 * 256) (by omega) (by omega) (by omega) (by omega) (by omega) (by omega),
    bits_join_low .u32 32 (by decide) hw 16 (z0 + z1 * 256) (z2 * 65536) (by omega) (by omega) (by omega) (by omega) (by omega) (by omega),
    bits_join_low .u32 32 (by decide) hw 24 (z0 + z1 * 256 + z2 * 65536) (z3 * 16777216) (by omega) (by omega) (by omega) (by omega) (by omega) (by omega)]
  unfold le4
  omega
theorem word_any (g off n c : Nat) (B : Nat) (zs : List Int) (w : World) (h : Ints w .u8 B (some ⟨g, off, none⟩) n zs) (hn : n = 4) :
    Calls Tryd.prog 30 #[.slice (some ⟨g, off, none⟩) n c] w fun e w' => e = .returned (.int .u32 (le4 (zs.getD 0 0) (zs.getD 1 0) (zs.getD 2 0) (zs.getD 3 0))) ∧ Still w w' := by
  subst hn
  have b0 := wf_u8 (h.range (i := 0) (by omega))
  have b1 := wf_u8 (h.range (i := 1) (by omega))
  have b2 := wf_u8 (h.range (i := 2) (by omega))
  have b3 := wf_u8 (h.range (i := 3) (by omega))
  obtain ⟨_, _, e0, _, c0⟩ := h.at_ (i := 0) (by omega)
  cases e0
  obtain ⟨_, _, e0, _, c1⟩ := h.at_ (i := 1) (by omega)
  cases e0
  obtain ⟨_, _, e0, _, c2⟩ := h.at_ (i := 2) (by omega)
  cases e0
  obtain ⟨_, _, e0, _, c3⟩ := h.at_ (i := 3) (by omega)
  cases e0
  rw [Nat.add_zero] at c0
  have J := Lib.hid (word_join b0 b1 b2 b3)
  generalize zs.getD 0 0 = z0 at *
  generalize zs.getD 1 0 = z1 at *
  generalize zs.getD 2 0 = z2 at *
  generalize zs.getD 3 0 = z3 at *
  clear h
  go_enter Tryd.func30, Tryd.ntmps30
  go_wp2_with fail
  go_quiet (fail)
  go_wp2_with fail
  go_ret
  exact ⟨ret_int J.out, ⟨_, rfl⟩⟩
theorem rword_any (g off n c : Nat) (B : Nat) (zs : List Int) (w : World) (h : Ints w .u8 B (some ⟨g, off, none⟩) n zs) (hn : n = 4) :
    Calls Tryd.prog 25 #[.slice (some ⟨g, off, none⟩) n c] w fun e w' => e = .returned (.int .u32 (le4 (zs.getD 0 0) (zs.getD 1 0) (zs.getD 2 0) (zs.getD 3 0))) ∧ Still w w' := by
  subst hn
  have b0 := wf_u8 (h.range (i := 0) (by omega))
  have b1 := wf_u8 (h.range (i := 1) (by omega))
  have b2 := wf_u8 (h.range (i := 2) (by omega))
  have b3 := wf_u8 (h.range (i := 3) (by omega))
  obtain ⟨_, _, e0, _, c0⟩ := h.at_ (i := 0) (by omega)
  cases e0
  obtain ⟨_, _, e0, _, c1⟩ := h.at_ (i := 1) (by omega)
  cases e0
  obtain ⟨_, _, e0, _, c2⟩ := h.at_ (i := 2) (by omega)
  cases e0
  obtain ⟨_, _, e0, _, c3⟩ := h.at_ (i := 3) (by omega)
  cases e0
  rw [Nat.add_zero] at c0
  have J := Lib.hid (word_join b0 b1 b2 b3)
  generalize zs.getD 0 0 = z0 at *
  generalize zs.getD 1 0 = z1 at *
  generalize zs.getD 2 0 = z2 at *
  generalize zs.getD 3 0 = z3 at *
  clear h
  go_enter Tryd.func25, Tryd.ntmps25
  go_wp2_with fail
  go_quiet (fail)
  go_wp2_with fail
  go_ret
  exact ⟨ret_int J.out, ⟨_, rfl⟩⟩

/-- four bytes of a number laid from place off on -/
def put4 (zs : List Int) (off : Nat) (n : Int) : List Int := (((zs.set off (n % 256)).set (off + 1) (n / 256 % 256)).set (off + 2) (n / 65536 % 256)).set (off + 3) (n / 16777216 % 256)
theorem put_any (g off c : Nat) (ty : TypeId) (zs : List Int) (n : Int) (w : World) (h : Row w g ty .u8 zs) (hl : off + 4 ≤ zs.length) (hn : R32 n) :
    Calls Tryd.prog 24 #[.slice (some ⟨g, off, none⟩) 4 c, .int .u32 n] w fun e w' => (∃ v, e = .returned v) ∧ Row w' g ty .u8 (put4 zs off n) ∧ w.grownBy w' (some g) := by
  have c0 := h.cell (i := off) (by omega)
  have c1 := h.cell (i := off + 1) (by omega)
  have c2 := h.cell (i := off + 2) (by omega)
  have c3 := h.cell (i := off + 3) (by omega)
  have f0 := h.frozen off
  have f1 := h.frozen (off + 1)
  have f2 := h.frozen (off + 2)
  have f3 := h.frozen (off + 3)
  have H := Lib.hid (show Row ((((w.setCell ⟨g, off, none⟩ (.int .u8 (n % 256))).setCell ⟨g, off + 1, none⟩ (.int .u8 (n / 256 % 256))).setCell ⟨g, off + 2, none⟩ (.int .u8 (n / 65536 % 256))).setCell ⟨g, off + 3, none⟩ (.int .u8 (n / 16777216 % 256))) g ty .u8 (put4 zs off n) from
    (((h.set off (wf_byte ⟨by omega, by omega⟩)).set _ (wf_byte ⟨by omega, by omega⟩)).set _ (wf_byte ⟨by omega, by omega⟩)).set _ (wf_byte ⟨by omega, by omega⟩))
  generalize zs.getD off 0 = z0 at *
  generalize zs.getD (off + 1) 0 = z1 at *
  generalize zs.getD (off + 2) 0 = z2 at *
  generalize zs.getD (off + 3) 0 = z3 at *
  clear h
  go_enter Tryd.func24, Tryd.ntmps24
  go_wp2_with fail
  go_end0
  exact ⟨⟨_, rfl⟩, H.out, Lib.grownBy_trans (Lib.grownBy_trans (Lib.grownBy_trans (grown_setCell w g _ _) (grown_setCell _ g _ _)) (grown_setCell _ g _ _)) (grown_setCell _ g _ _)⟩

theorem info_u32 : (Tryd.prog.info? 23).map (·.size) = some 1 := by kernel_rfl

theorem round_set (s : List Int) (i j k l : Nat) : at4 s i j k l = ((((s.set i (qr (s.getD i 0) (s.getD j 0) (s.getD k 0) (s.getD l 0)).1).set j (qr (s.getD i 0) (s.getD j 0) (s.getD k 0) (s.getD l 0)).2.1).set k (qr (s.getD i 0) (s.getD j 0) (s.getD k 0) (s.getD l 0)).2.2.1).set l (qr (s.getD i 0) (s.getD j 0) (s.getD k 0) (s.getD l 0)).2.2.2) := by unfold at4; rfl
theorem info_16 : (Tryd.prog.info? 48).map (·.size) = some 16 := by kernel_rfl
theorem zero_16 : (Tryd.prog.info? 48).bind (·.zero) = some (.agg (arr .u32 (List.replicate 16 0))) := by kernel_rfl
theorem wf_32 {x : Int} (h : R32 x) : (Lit.int .u32 x).wf = true := by
  unfold R32 at h
  simp [Lit.wf, IntKind.min, IntKind.max, IntKind.signed, IntKind.bits]
  omega

set_option maxRecDepth 100000 in
theorem round_any (s : List Int) (i j k l : Nat) (w : World) (hs : Sixteen s) (hi : i < 16) (hj : j < 16) (hk : k < 16) (hl : l < 16) :
    Calls Tryd.prog 26 #[.agg (arr .u32 s), .int .i64 (i : Int), .int .i64 (j : Int), .int .i64 (k : Int), .int .i64 (l : Int)] w fun e w' => e = .returned (.agg (arr .u32 (at4 s i j k l))) ∧ Below w.heap.size w w' := by
  have hwf : ∀ z ∈ s, (Lit.int .u32 z).wf = true := fun z hz => wf_32 (hs.2 z hz)
  have HL := Lib.hid hs.1
  have R := Lib.hid (round_set s i j k l)
  have HS := Lib.hid (hs.at4 i j k l)
  go_enter Tryd.func26, Tryd.ntmps26
  go_wp2_with (first
    | (refine wpList_box_Row (w := w) rfl 48 _ rfl .u32 s rfl hwf ?_; intro w1 r1 g1 z1)
    | (refine wpList_alloc_Row (w := w1) rfl 48 rfl .u32 16 zero_16 ?_; intro w2 r2 g2 z2))
  have b2 : Below w.heap.size w w2 := ((Below.refl _ w).grown g1 (Nat.le_refl _) (by simp)).grown g2 g1.size (by simp)
  have q1 := r1.grown g2 (by simp)
  obtain ⟨g, hg⟩ : ∃ g, w1.heap.size = g := ⟨_, rfl⟩
  have hgw : w.heap.size < g := by rw [← hg]; exact r1.lt
  rw [hg] at r2
  have ci := q1.cell (i := i) (by rw [HL.out]; exact hi)
  have cj := q1.cell (i := j) (by rw [HL.out]; exact hj)
  have ck := q1.cell (i := k) (by rw [HL.out]; exact hk)
  have cl := q1.cell (i := l) (by rw [HL.out]; exact hl)
  have R' := R.out
  clear r1 g1 g2 z1 z2 hs
  generalize s.getD i 0 = x0 at *
  generalize s.getD j 0 = x1 at *
  generalize s.getD k 0 = x2 at *
  generalize s.getD l 0 = x3 at *
  have hi' : (i : Int) < 16 := by omega
  have hj' : (j : Int) < 16 := by omega
  have hk' : (k : Int) < 16 := by omega
  have hl' : (l : Int) < 16 := by omega
  have hi0 : (0 : Int) ≤ (i : Int) := by omega
  have hj0 : (0 : Int) ≤ (j : Int) := by omega
  have hk0 : (0 : Int) ≤ (k : Int) := by omega
  have hl0 : (0 : Int) ≤ (l : Int) := by omega
  go_wp2_with fail
  go_quiet ((go_at_call 8; exact quiet_same (rquarter_any _ _ _ _ _)))
  clear ci cj ck cl
  obtain ⟨w3, hw3⟩ : ∃ w3, w2.drewN nq = w3 := ⟨_, rfl⟩
  have q3 : Row w3 w.heap.size 48 .u32 s := hw3 ▸ q1
  have p3 : Row w3 g 48 .u32 (List.replicate 16 0) := hw3 ▸ r2
  have b3 : Below w.heap.size w w3 := hw3 ▸ below_drewN b2 nq
  rw [hw3]
  obtain ⟨y1, y2, y3, y4⟩ := r32_qr x0 x1 x2 x3
  clear hw3 q1 r2 b2 R
  go_wp2_with (first
    | (refine wpList_store_elem (w := w3) rfl 23 _ _ rfl w.heap.size i rfl 48 .u32 _ _ rfl q3 (by rw [HL.out]; exact hi) info_u32 (wf_32 y1) ?_; intro w4 q4 g4 z4)
    | (refine wpList_store_elem (w := w4) rfl 23 _ _ rfl w.heap.size j rfl 48 .u32 _ _ rfl q4 (by rw [List.length_set, HL.out]; exact hj) info_u32 (wf_32 y2) ?_; intro w5 q5 g5 z5)
    | (refine wpList_store_elem (w := w5) rfl 23 _ _ rfl w.heap.size k rfl 48 .u32 _ _ rfl q5 (by rw [List.length_set, List.length_set, HL.out]; exact hk) info_u32 (wf_32 y3) ?_; intro w6 q6 g6 z6)
    | (refine wpList_store_elem (w := w6) rfl 23 _ _ rfl w.heap.size l rfl 48 .u32 _ _ rfl q6 (by rw [List.length_set, List.length_set, List.length_set, HL.out]; exact hl) info_u32 (wf_32 y4) ?_; intro w7 q7 g7 z7; rw [← R'] at q7; have p7 := (((p3.grown g4 (by intro e; injection e with e; omega)).grown g5 (by intro e; injection e with e; omega)).grown g6 (by intro e; injection e with e; omega)).grown g7 (by intro e; injection e with e; omega))
    | (refine wpList_load_Row (w := w7) rfl 48 _ rfl w.heap.size rfl 48 .u32 _ q7 16 23 Tryd.underlying48 info_16 HS.out.1 ?_)
    | (refine wpList_store_RowTo (w := w7) rfl 48 _ _ rfl g rfl 48 .u32 _ (at4 s i j k l) rfl p7 16 info_16 HS.out.1 (by simp) (fun z hz => wf_32 (HS.out.2 z hz)) ?_; intro w8 q8 g8 z8))
  have b7 : Below w.heap.size w w7 := (((b3.grown g4 b3.size (fun r e => by cases e; omega)).grown g5 (by have := b3.size; have := g4.size; omega) (fun r e => by cases e; omega)).grown g6 (by have := b3.size; have := g4.size; have := g5.size; omega) (fun r e => by cases e; omega)).grown g7 (by have := b3.size; have := g4.size; have := g5.size; have := g6.size; omega) (fun r e => by cases e; omega)
  refine bodyPost_ret (results_Row rfl _ _ g _ _ _ rfl q8 16 23 Tryd.underlying48 info_16 HS.out.1) rfl ?_
  exact ⟨rfl, b7.grown g8 b7.size (fun r e => by cases e; omega)⟩
end Go.Proofs.YtejgnjnmlojdpaaDoor.Cha

