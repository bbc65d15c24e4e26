/-
  The function Expand of package hkdf by its contract. Conditions: what is said is at most 2^38 bytes; the two tables of package sha lie where the program's text lays them.
-/
import Derived.Test.YtbfdhbobokfbhaaDoorHk1
import Derived.Test.YtbfdhbobokfbhaaDoorRnd
namespace Go.Proofs.YtbfdhbobokfbhaaDoor.Hkdf
open Go.RowKit Go.Shelf Go.Proofs.YtbfdhbobokfbhaaDoor.Mem Go.Proofs.YtbfdhbobokfbhaaDoor.Help Go.Proofs.YtbfdhbobokfbhaaDoor.Sum Go.Proofs.YtbfdhbobokfbhaaDoor.Sha Go.Proofs.YtbfdhbobokfbhaaDoor.Mac Go.Proofs.YtbfdhbobokfbhaaDoor.Range Go.Proofs.YtbfdhbobokfbhaaDoor
set_option linter.unusedVariables false
attribute [local go_sem] Oper.semAt_some
attribute [local irreducible] wpList wpListIn

set_option maxRecDepth 100000 in
set_option maxHeartbeats 4000000 in
theorem expand_bad (key : List Int) (hkb : ∀ z ∈ key, (Lit.int .u8 z).wf = true) (A : Option Addr) (m c : Nat) (x : Int) (w : World) (hx : x < 1 ∨ 8160 < x) :
    Calls Tryd.prog 10 #[.agg (arr .u8 key), .slice A m c, .int .i64 x] w fun e w' => e = .returned (.tuple #[.slice none 0 0, .int .i64 1]) ∧ Below w.heap.size w w' := by
  by_cases h1 : x < 1
  · go_enter Tryd.func10, Tryd.ntmps10
    go_wp2_with (refine wpList_box_Row rfl 25 _ rfl .u8 key rfl hkb ?_; intro w1 r1 g1 z1)
    have b1 : Below w.heap.size w w1 := (Below.refl _ w).grown g1 (Nat.le_refl _) (by simp)
    go_ret2
    exact ⟨rfl, b1.alloc b1.size _⟩
  · have h2 : 8160 < x := by omega
    go_enter Tryd.func10, Tryd.ntmps10
    go_wp2_with (refine wpList_box_Row rfl 25 _ rfl .u8 key rfl hkb ?_; intro w1 r1 g1 z1)
    have b1 : Below w.heap.size w w1 := (Below.refl _ w).grown g1 (Nat.le_refl _) (by simp)
    go_ret2
    exact ⟨rfl, b1.alloc b1.size _⟩

/-- what stands between two rounds -/
def Inv (w : World) (g lb nb n : Nat) (key info : List Int) (k : Nat) (W : World) : Prop :=
  32 * k < n ∧ W.heap[lb]? = some (.cells #[.slice (some ⟨g, 0, none⟩) (32 * k) n] 22 (0, 0)) ∧ Mem.Own W w.heap.size 5 .u8 (.slice (some ⟨g, 0, none⟩) (32 * k) n) (out key info (32 * k)) ∧
    W.heap[nb]? = some (.cells #[.int .i64 (n : Int)] 3 (0, 0)) ∧ Below w.heap.size w W
/-- what stands when the body has left -/
def Done (w : World) (g lb n : Nat) (key info : List Int) (c : Code) (k : Nat) (W : World) : Prop :=
  c = .exit 0 ∧ W.heap[lb]? = some (.cells #[.slice (some ⟨g, 0, none⟩) n n] 22 (0, 0)) ∧ Mem.Own W w.heap.size 5 .u8 (.slice (some ⟨g, 0, none⟩) n n) (out key info n) ∧ Below w.heap.size w W
theorem Inv.far (w : World) (g lb nb n : Nat) (key info : List Int) {B : Nat} (hw : w.heap.size < B) (hg : g < B) (hl : lb < B) (hn : nb < B) : Far B (Inv w g lb nb n key info) := by
  intro k W W' row h hgr hr
  have hne : ∀ i, i < B → some i ≠ row := fun i hi e => by have := hr i e.symm; omega
  obtain ⟨h0, h1, h2, h3, h4⟩ := h
  refine ⟨h0, Held.keep_cells h1 hgr (hne _ hl), h2.kept hgr (.inr (hne _ hg)), Held.keep_cells h3 hgr (hne _ hn), h4.grown hgr h4.size (fun r e => by have := hr r e; omega)⟩
theorem Done.far (w : World) (g lb n : Nat) (key info : List Int) (c : Code) {B : Nat} (hw : w.heap.size < B) (hg : g < B) (hl : lb < B) : Far B (Done w g lb n key info c) := by
  intro k W W' row h hgr hr
  have hne : ∀ i, i < B → some i ≠ row := fun i hi e => by have := hr i e.symm; omega
  obtain ⟨h0, h1, h2, h4⟩ := h
  refine ⟨h0, Held.keep_cells h1 hgr (hne _ hl), h2.kept hgr (.inr (hne _ hg)), h4.grown hgr h4.size (fun r e => by have := hr r e; omega)⟩

set_option maxRecDepth 100000 in
set_option maxHeartbeats 8000000 in
theorem expand_any (key info : List Int) (hk : key.length = 32) (hkb : ∀ z ∈ key, (Lit.int .u8 z).wf = true) (B : Nat) (A : Option Addr) (m c n : Nat) (w : World) (hi : Ints w .u8 B A m info) (hB : B ≤ w.heap.size) (hmc : m ≤ c) (hcm : c ≤ maxLen) (hm : m ≤ 274877906944)
    (hn1 : 1 ≤ n) (hn2 : n ≤ 8160) (hT0 : Tab w 0 Sum.H0) (hT1 : Tab w 1 Sum.K) :
    Calls Tryd.prog 10 #[.agg (arr .u8 key), .slice A m c, .int .i64 (n : Int)] w fun e w' => ∃ g, e = .returned (.tuple #[.slice (some ⟨g, 0, none⟩) n n, .int .i64 0]) ∧ w.heap.size ≤ g ∧ Row w' g 5 .u8 (out key info n) ∧ Below w.heap.size w w' := by
  refine (callsIn_wide (n := 3)).1 ?_
  refine callsIn_of_wp_marks Tryd.func10 rfl trivial ?_ rfl
  simp only [Tryd.ntmps10, List.size_toArray, List.length_cons, List.length_nil, Nat.reduceAdd, Nat.reduceSub, Array.replicate_succ, Array.replicate_zero, List.push_toArray, List.append_toArray, List.nil_append, List.cons_append]
  have HK := Lib.hid hk
  clear hk
  have q1 : ¬ (n : Int) < 1 := by omega
  have q2 : ¬ (8160 : Int) < (n : Int) := by omega
  obtain ⟨i0, hi0, hz0, hs0, hb0⟩ := info_parts info_u8
  gi_wp2_with (first
    | (refine wpListIn_box_Row rfl 25 _ rfl .u8 key rfl hkb ?_; intro w1 r1 g1 z1)
    | (refine Held.wpListIn_box_cell (w := w1) rfl 3 _ rfl (.int .i64 (n : Int)) rfl rfl ?_; intro w2 h2 g2 z2; have cn2 := cell_of_one h2)
    | (refine wpListIn_make_own w2 rfl _ _ 22 rfl w.heap.size 5 i0 (.int .u8 0) 1 Tryd.underlying22 hi0 hz0 hs0 .i64 .i64 _ n rfl rfl (by omega) (by rw [hb0]; omega) (by unfold maxLen; omega) (by have := g1.size; have := g2.size; omega) ?_; intro w3 hown3 g3)
    | (refine Held.wpListIn_alloc_cell (w := w3) rfl 22 rfl (.slice none 0 0) (by kernel_rfl) rfl ?_; intro w4 h4 g4 z4)
    | (refine Held.wpListIn_store_box (w := w4) rfl 22 _ _ rfl w3.heap.size rfl 22 _ (.slice (some ⟨w2.heap.size, 0, none⟩) 0 n) rfl h4 (by kernel_rfl) rfl rfl ?_; intro w5 h5 g5; have r15 := (((r1.grown g2 (by simp)).grown g3 (by simp)).grown g4 (by simp)).grown g5 (by have := g1.size; have := g2.size; have := g3.size; intro e; injection e with e; have := r1.lt; omega))
    | (refine wpListIn_load_Row (w := w5) rfl 25 _ rfl w.heap.size rfl 25 .u8 _ r15 32 5 Tryd.underlying25 info_32 HK.out ?_))
  obtain ⟨nb, hnb⟩ : ∃ nb, w1.heap.size = nb := ⟨_, rfl⟩
  obtain ⟨g, hg⟩ : ∃ g, w2.heap.size = g := ⟨_, rfl⟩
  obtain ⟨lb, hlb⟩ : ∃ lb, w3.heap.size = lb := ⟨_, rfl⟩
  have e1 := z1.out
  have e2 := z2.out
  have lg : w2.heap.size < w3.heap.size := (hown3.lt _ rfl).2
  have s4 := g4.size
  have s5 := g5.size
  have c2 : Below w.heap.size w w2 := ((Below.refl _ w).grown g1 (Nat.le_refl _) (by simp)).grown g2 (by omega) (by simp)
  have c5 : Below w.heap.size w w5 := ((c2.grown g3 c2.size (by simp)).grown g4 (by omega) (by simp)).grown g5 (by omega) (fun r e => by cases e; omega)
  rw [hnb] at e1 e2 h2
  rw [hg] at e2
  rw [hg] at lg hown3 h5
  rw [hlb] at lg s4 h5 g5
  rw [hnb, hg, hlb]
  have o5 : Mem.Own w5 w.heap.size 5 .u8 (.slice (some ⟨g, 0, none⟩) 0 n) (out key info 0) := by
    rw [out_zero]
    have o3 : Mem.Own w3 w.heap.size 5 .u8 (.slice (some ⟨g, 0, none⟩) 0 n) [] := ⟨by simp, hown3⟩
    exact (o3.kept g4 (.inr (by simp [Value.ownBlock]))).kept g5 (.inr (fun e => by have e : some g = some lb := e; injection e with e; omega))
  have n5 := Held.keep_cells (Held.keep_cells (Held.keep_cells h2 g3 (by simp)) g4 (by simp)) g5 (by intro e; injection e with e; omega)
  have i5 : Inv w g lb nb n key info 0 w5 := ⟨by omega, h5, o5, n5, c5⟩
  have hwn : w.heap.size < nb := by omega
  have hng : nb < g := by omega
  have hl5 : lb < w5.heap.size := (Array.getElem?_eq_some_iff.1 h5).1
  clear e1 e2 s4 s5 c2 n5 o5 h2 h5 h4 hown3 g1 g2 g3 g4 g5 z1 z2 z4 cn2 r1 r15 hnb hg hlb hi0 hz0 hs0 hb0
  refine ⟨trivial, ?_⟩
  refine (callsIn_wide.2 (follow_any key hkb A m c w5)).mono ?_
  rintro e W6 ⟨rfl, rk, ck, b6, z6⟩
  have i6 : Inv w g lb nb n key info 0 W6 := Inv.far w g lb nb n key info (B := w5.heap.size) (by omega) (by omega) hl5 (by omega) 0 _ _ none i5 (grown_of_below b6 none) (fun r e => by cases e)
  have c6 := i6.2.2.2.2
  obtain ⟨fb, hfb⟩ : ∃ fb, w5.heap.size = fb := ⟨_, rfl⟩
  rw [hfb] at rk ck b6 z6 hl5 ⊢
  have hSlt : ∀ b, b < w.heap.size → ¬ (b = g ∨ b = lb) := fun b hb e => by omega
  have z6' := z6.out
  have hit := fun n => follow_stop n fb (fb + 1) (fun b => b = g ∨ b = lb) key info A m c W6 rk HK.out ck (by omega) (by omega) (IntsN.of (hi.below (c6.mono hB)) (fun b hb => hSlt b (by omega))) hmc hcm hm (fun b hb => by omega) (hT0.below c6 hT0.lt) (hT1.below c6 hT1.lt) (hSlt _ hT0.lt) (hSlt _ hT1.lt)
  clear rk ck b6 i5 c5 hfb
  gi_wp2_with fail
  refine wpIn_rangeFunc_stop rfl (by omega) (gf := 24) (lb := #[.pointer (some ⟨fb, 0, none⟩), .pointer (some ⟨fb + 1, 0, none⟩)]) rfl trivial (enters_of Tryd.func24 (by kernel_rfl) rfl)
    (hit _) (fun h k => h.trans k) (fun W l o o' hl ho hc _ => Only.put W l o o' ho hc) (Below.refl _ _) (fun _ => rfl)
    256 (Inv w g lb nb n key info) (Done w g lb n key info) (Inv.far w g lb nb n key info (by omega) (by omega) (by omega) (by omega)) (fun c => Done.far w g lb n key info c (by omega) (by omega) (by omega)) (fun k W h => by have := h.1; omega) i6
    (fun x a' k W => Inv w g lb nb n key info k W ∧ ∃ p, lb < p ∧ Row W p 25 .u8 x ∧ a' = { tmps := #[.agg (arr .u8 key), .slice A m c, .int .i64 (n : Int), .pointer (some ⟨w.heap.size, 0, none⟩), undef, .pointer (some ⟨nb, 0, none⟩), .slice none 0 0, .int .i64 0, .pointer (some ⟨lb, 0, none⟩), .pointer (some ⟨p, 0, none⟩), .int .i64 (n : Int), .bool false, .bool false, .int .i64 (n : Int), .bool false, .bool false, .int .i64 (n : Int), .slice (some ⟨g, 0, none⟩) 0 n, .agg (arr .u8 key), .slice A m c, .func (.func 24) #[] #[.pointer (some ⟨fb, 0, none⟩), .pointer (some ⟨fb + 1, 0, none⟩)], .agg (arr .u8 x), undef, undef, undef, undef, undef, undef, undef, undef, undef, undef, undef, undef, undef], defers := [] }) ?ib ?assign ?body ?done ?stop
  case ib =>
    rintro x a' k W W' row ⟨hi, p, hp, hr, h3⟩ hgr hrow
    exact ⟨Inv.far w g lb nb n key info (B := lb + 1) (by omega) (by omega) (by omega) (by omega) k W W' row hi hgr (fun r e => by have := (hrow r e).1; omega), p, hp, hr.grown hgr (Held.ne_of_cells hr.2 (fun r e => (hrow r e).2)), h3⟩
  case assign =>
    intro l k x W K hi hat hsz hK
    have hxl : x.length = 32 := by
      have hat : (if k < 255 then some (piece key info (k + 1)) else none) = some x := hat
      split at hat
      · injection hat with hat; rw [← hat]; exact piece_length _ _ _
      · cases hat
    have hxw : ∀ z ∈ x, (Lit.int .u8 z).wf = true := by
      have hat : (if k < 255 then some (piece key info (k + 1)) else none) = some x := hat
      split at hat
      · injection hat with hat; rw [← hat]; exact piece_wf _ _ _
      · cases hat
    have HXL := Lib.hid hxl
    have HXW := Lib.hid hxw
    have HAT := Lib.hid hat
    clear hxl hxw hat
    simp only [Held.zip_one, List.setIfInBounds_toArray, List.set_cons_zero, List.set_cons_succ]
    gi_wp2_with (first
      | (refine wpListIn_alloc_Row rfl 25 rfl .u8 32 zero_32 ?_; intro w1 r1 g1 z1)
      | (refine wpListIn_store_RowTo (w := w1) rfl 25 _ _ rfl W.heap.size rfl 25 .u8 _ x rfl r1 32 info_32 HXL.out (by simp) HXW.out ?_; intro w2 r2 g2 z2))
    have b2 : Below W.heap.size W w2 := ((Below.refl _ W).grown g1 (Nat.le_refl _) (by simp)).grown g2 g1.size (fun r e => by cases e; exact Nat.le_refl _)
    exact hK _ _ ((Held.others_of_new g1).trans (Held.others_of_grown r1.2 g2)) (Only.of_below b2) ⟨Inv.far w g lb nb n key info (B := W.heap.size) (by omega) (by omega) (by omega) (by omega) k _ _ none hi (grown_of_below b2 none) (fun r e => by cases e), W.heap.size, by omega, r2, rfl⟩
  case body =>
    rintro l k x a' W hl hrec ⟨⟨i0, i1, i2, i3, i4⟩, p, hp, hr, rfl⟩ hat hsz
    have hat : (if k < 255 then some (piece key info (k + 1)) else none) = some x := hat
    have hk255 : k < 255 := by
      by_cases h : k < 255
      · exact h
      · rw [if_neg h] at hat; cases hat
    rw [if_pos hk255] at hat
    injection hat with hat
    subst hat
    obtain ⟨q, hq⟩ : ∃ q, 32 * k = q := ⟨_, rfl⟩
    rw [hq] at i0 i1 i2
    obtain ⟨j, hj⟩ : ∃ j, j = min 32 (n - q) := ⟨_, rfl⟩
    obtain ⟨L, hLL⟩ : ∃ L, q + j = L := ⟨_, rfl⟩
    have hj32 : j ≤ 32 := by omega
    have HQL := Lib.hid (show (out key info q).length = q from out_length _ _ _ (by omega))
    have HO := Lib.hid (show out key info q ++ (piece key info (k + 1)).take j = out key info L by rw [← hLL, ← hq]; exact out_step key info k j hk255 hj32)
    have HL := Lib.hid hLL
    have ip := hr.ints (n := j) (by rw [piece_length]; omega)
    have cl := cell_of_one i1
    obtain ⟨cs, hcs⟩ := i2.cells_
    have hsub : IntKind.i64.wrap ((n : Int) - (q : Int)) = ((n - q : Nat) : Int) := by simp [IntKind.wrap, IntKind.bits, IntKind.signed]; omega
    have hmin : (if ((n - q : Nat) : Int) < 32 then ((n - q : Nat) : Int) else 32) = (j : Int) := by split <;> omega
    have hLn : L ≤ n := by omega
    clear hrec
    gi_wp2_with fail
    refine Held.wpIn_region_heldR (r := some l) (S := fun X => X.heap[nb]? = some (.cells #[.int .i64 (n : Int)] 3 (0, 0))) rfl (by kernel_rfl) (by kernel_rfl) (fun a w h => h) ?_
    change wpAnyH _ _ _ _ _ _ _ _ W.drew
    have c0_0 : W.drew.heap[nb]? = some (.cells #[.int .i64 (n : Int)] 3 (0, 0)) := i3
    refine Held.take (v := .int .i64 (n : Int)) 1 (some 23) rfl rfl (by kernel_rfl) (by kernel_rfl) (by kernel_rfl) (fun _ _ _ h => h) rfl (Held.y_load rfl rfl (by kernel_rfl) (fun X h => cell_of_one h)) c0_0 ?_
    simp only [Act.put, List.setIfInBounds_toArray, List.set_cons_zero, List.set_cons_succ]
    refine Held.two 0 2 (by kernel_rfl) ?_ ?_
    · refine Held.op_load 0 (some 22) 22 ⟨lb, 0, none⟩ (.slice (some ⟨g, 0, none⟩) q n) rfl rfl rfl rfl rfl (Held.run_loadVar_cell _ _ _ _ (by kernel_rfl) cl) ?_
      have c0_1 := c0_0
      refine ⟨c0_1, ?_⟩
      simp only [Act.put, List.setIfInBounds_toArray, List.set_cons_zero, List.set_cons_succ]
      refine Held.one 2 (by kernel_rfl) ?_
      refine Held.op_load 2 (some 24) 22 ⟨lb, 0, none⟩ (.slice (some ⟨g, 0, none⟩) q n) rfl rfl rfl rfl rfl (Held.run_loadVar_cell _ _ _ _ (by kernel_rfl) cl) ?_
      have c0_2 := c0_1
      refine ⟨c0_2, ?_⟩
      simp only [Act.put, List.setIfInBounds_toArray, List.set_cons_zero, List.set_cons_succ]
      refine Held.take (v := .int .i64 (q : Int)) 3 (some 25) rfl rfl (by kernel_rfl) (by kernel_rfl) (by kernel_rfl) (fun _ _ _ h => h) rfl (Held.y_len rfl rfl (by kernel_rfl)) c0_2 ?_
      simp only [Act.put, List.setIfInBounds_toArray, List.set_cons_zero, List.set_cons_succ]
      refine Held.take (v := .int .i64 ((n - q : Nat) : Int)) 4 (some 26) rfl rfl (by kernel_rfl) (by kernel_rfl) (by kernel_rfl) (fun _ _ _ h => h) rfl (Held.y_int rfl rfl rfl (Held.run_sub 3 .i64 hsub)) c0_2 ?_
      simp only [Act.put, List.setIfInBounds_toArray, List.set_cons_zero, List.set_cons_succ]
      refine Held.take (v := .int .i64 (j : Int)) 5 (some 27) rfl rfl (by kernel_rfl) (by kernel_rfl) (by kernel_rfl) (fun _ _ _ h => h) rfl (Held.y_min rfl rfl rfl hmin) c0_2 ?_
      simp only [Act.put, List.setIfInBounds_toArray, List.set_cons_zero, List.set_cons_succ]
      refine Held.take (v := .slice (some ⟨p, 0, none⟩) j 32) 6 (some 28) rfl rfl (by kernel_rfl) (by kernel_rfl) (by kernel_rfl) (fun _ _ _ h => h) rfl (Held.y_slice rfl (fun X => Held.run_slice_arr_h (P := Tryd.prog) 25 5 32 p j X Tryd.underlying25 (by kernel_rfl) (by omega) hj32)) c0_2 ?_
      simp only [Act.put, List.setIfInBounds_toArray, List.set_cons_zero, List.set_cons_succ]
      refine Held.one 7 (by kernel_rfl) ?_
      refine Held.op_append_fits 7 (some 29) 22 rfl rfl rfl rfl w.heap.size 5 .u8 1 Tryd.underlying22 info_u8 g n q (out key info q) rfl HQL.out (i2.drewN 1) W.heap.size (some ⟨p, 0, none⟩) j 32 ((piece key info (k + 1)).take j) rfl (ip.drew) L HL.out (by omega) ?_
      intro wA oA gA
      have c0_3 := Held.keep_cells c0_2 gA (by simp; omega)
      refine ⟨c0_3, ?_⟩
      simp only [Act.put, List.setIfInBounds_toArray, List.set_cons_zero, List.set_cons_succ]
      refine Held.one 8 (by kernel_rfl) ?_
      refine Held.op_store_box 8 none 22 lb 22 _ (.slice (some ⟨g, 0, none⟩) L n) rfl rfl rfl rfl rfl rfl (Held.keep_cells (w := W.drew) i1 gA (by simp; omega)) (by kernel_rfl) rfl rfl ?_
      intro wB lB gB
      have c0_4 := Held.keep_cells c0_3 gB (by simp; omega)
      refine ⟨c0_4, ?_⟩
      simp only [Act.put]
      refine wpAnyH_done (by kernel_rfl) ?_ _
      have cB := cell_of_one lB
      have nB := cell_of_one c0_4
      have kA := Held.others_of_grown (w := W.drew) hcs gA
      have kB := Held.others_of_grown (Held.keep_cells (w := W.drew) i1 gA (by simp; omega)) gB
      have kW : KeepsOthers W wB := KeepsOthers.trans (show KeepsOthers W wA from ⟨kA.size, kA.same⟩) kB
      have oW : Only (fun b => b = g ∨ b = lb) W wB := Only.trans (show Only _ W wA from ⟨gA.size, (Only.of_grown (w := W.drew) gA (S := fun b => b = g ∨ b = lb) (fun r e => by cases e; exact .inl rfl)).block⟩) (Only.of_grown gB (fun r e => by cases e; exact .inr rfl))
      have oB := oA.kept gB (.inr (fun e => by have e : some g = some lb := e; injection e with e; omega))
      rw [HO.out] at oB
      have bB : Below w.heap.size w wB := ((i4.drew).grown gA i4.size (fun r e => by cases e; omega)).grown gB (by have := i4.size; have := gA.size; exact Nat.le_trans (by assumption) this) (fun r e => by cases e; omega)
      by_cases hlast : L = n
      · have t1 : (decide ((L : Int) = (n : Int))) = true := by simp [hlast]
        gi_wp2_with fail
        exact ⟨kW, rfl, by rw [← hlast] at lB ⊢; exact lB, by rw [← hlast] at oB ⊢; exact oB, bB⟩
      · have t1 : ¬ ((L : Int) = (n : Int)) := by omega
        gi_wp2_with fail
        exact ⟨kW, oW, by omega, by rw [show 32 * (k + 1) = L by omega]; exact lB, by rw [show 32 * (k + 1) = L by omega]; exact oB, c0_4, bB⟩
    · refine Held.op_load 2 (some 24) 22 ⟨lb, 0, none⟩ (.slice (some ⟨g, 0, none⟩) q n) rfl rfl rfl rfl rfl (Held.run_loadVar_cell _ _ _ _ (by kernel_rfl) cl) ?_
      have c0_1 := c0_0
      refine ⟨c0_1, ?_⟩
      simp only [Act.put, List.setIfInBounds_toArray, List.set_cons_zero, List.set_cons_succ]
      refine Held.take (v := .int .i64 (q : Int)) 3 (some 25) rfl rfl (by kernel_rfl) (by kernel_rfl) (by kernel_rfl) (fun _ _ _ h => h) rfl (Held.y_len rfl rfl (by kernel_rfl)) c0_1 ?_
      simp only [Act.put, List.setIfInBounds_toArray, List.set_cons_zero, List.set_cons_succ]
      refine Held.take (v := .int .i64 ((n - q : Nat) : Int)) 4 (some 26) rfl rfl (by kernel_rfl) (by kernel_rfl) (by kernel_rfl) (fun _ _ _ h => h) rfl (Held.y_int rfl rfl rfl (Held.run_sub 3 .i64 hsub)) c0_1 ?_
      simp only [Act.put, List.setIfInBounds_toArray, List.set_cons_zero, List.set_cons_succ]
      refine Held.take (v := .int .i64 (j : Int)) 5 (some 27) rfl rfl (by kernel_rfl) (by kernel_rfl) (by kernel_rfl) (fun _ _ _ h => h) rfl (Held.y_min rfl rfl rfl hmin) c0_1 ?_
      simp only [Act.put, List.setIfInBounds_toArray, List.set_cons_zero, List.set_cons_succ]
      refine Held.take (v := .slice (some ⟨p, 0, none⟩) j 32) 6 (some 28) rfl rfl (by kernel_rfl) (by kernel_rfl) (by kernel_rfl) (fun _ _ _ h => h) rfl (Held.y_slice rfl (fun X => Held.run_slice_arr_h (P := Tryd.prog) 25 5 32 p j X Tryd.underlying25 (by kernel_rfl) (by omega) hj32)) c0_1 ?_
      simp only [Act.put, List.setIfInBounds_toArray, List.set_cons_zero, List.set_cons_succ]
      refine Held.one 0 (by kernel_rfl) ?_
      refine Held.op_load 0 (some 22) 22 ⟨lb, 0, none⟩ (.slice (some ⟨g, 0, none⟩) q n) rfl rfl rfl rfl rfl (Held.run_loadVar_cell _ _ _ _ (by kernel_rfl) cl) ?_
      have c0_2 := c0_1
      refine ⟨c0_2, ?_⟩
      simp only [Act.put, List.setIfInBounds_toArray, List.set_cons_zero, List.set_cons_succ]
      refine Held.one 7 (by kernel_rfl) ?_
      refine Held.op_append_fits 7 (some 29) 22 rfl rfl rfl rfl w.heap.size 5 .u8 1 Tryd.underlying22 info_u8 g n q (out key info q) rfl HQL.out (i2.drewN 1) W.heap.size (some ⟨p, 0, none⟩) j 32 ((piece key info (k + 1)).take j) rfl (ip.drew) L HL.out (by omega) ?_
      intro wA oA gA
      have c0_3 := Held.keep_cells c0_2 gA (by simp; omega)
      refine ⟨c0_3, ?_⟩
      simp only [Act.put, List.setIfInBounds_toArray, List.set_cons_zero, List.set_cons_succ]
      refine Held.one 8 (by kernel_rfl) ?_
      refine Held.op_store_box 8 none 22 lb 22 _ (.slice (some ⟨g, 0, none⟩) L n) rfl rfl rfl rfl rfl rfl (Held.keep_cells (w := W.drew) i1 gA (by simp; omega)) (by kernel_rfl) rfl rfl ?_
      intro wB lB gB
      have c0_4 := Held.keep_cells c0_3 gB (by simp; omega)
      refine ⟨c0_4, ?_⟩
      simp only [Act.put]
      refine wpAnyH_done (by kernel_rfl) ?_ _
      have cB := cell_of_one lB
      have nB := cell_of_one c0_4
      have kA := Held.others_of_grown (w := W.drew) hcs gA
      have kB := Held.others_of_grown (Held.keep_cells (w := W.drew) i1 gA (by simp; omega)) gB
      have kW : KeepsOthers W wB := KeepsOthers.trans (show KeepsOthers W wA from ⟨kA.size, kA.same⟩) kB
      have oW : Only (fun b => b = g ∨ b = lb) W wB := Only.trans (show Only _ W wA from ⟨gA.size, (Only.of_grown (w := W.drew) gA (S := fun b => b = g ∨ b = lb) (fun r e => by cases e; exact .inl rfl)).block⟩) (Only.of_grown gB (fun r e => by cases e; exact .inr rfl))
      have oB := oA.kept gB (.inr (fun e => by have e : some g = some lb := e; injection e with e; omega))
      rw [HO.out] at oB
      have bB : Below w.heap.size w wB := ((i4.drew).grown gA i4.size (fun r e => by cases e; omega)).grown gB (by have := i4.size; have := gA.size; exact Nat.le_trans (by assumption) this) (fun r e => by cases e; omega)
      by_cases hlast : L = n
      · have t1 : (decide ((L : Int) = (n : Int))) = true := by simp [hlast]
        gi_wp2_with fail
        exact ⟨kW, rfl, by rw [← hlast] at lB ⊢; exact lB, by rw [← hlast] at oB ⊢; exact oB, bB⟩
      · have t1 : ¬ ((L : Int) = (n : Int)) := by omega
        gi_wp2_with fail
        exact ⟨kW, oW, by omega, by rw [show 32 * (k + 1) = L by omega]; exact lB, by rw [show 32 * (k + 1) = L by omega]; exact oB, c0_4, bB⟩
  case done =>
    rintro D k W hD hat ⟨h0, _⟩ hDl
    have hat : (if k < 255 then some (piece key info (k + 1)) else none) = none := hat
    by_cases h : k < 255
    · rw [if_pos h] at hat; cases hat
    · omega
  case stop =>
    rintro D c k W hD ⟨rfl, i1, i2, ib⟩ hDl
    have cl := cell_of_one i1
    gi_wp2_with fail
    have ge : w.heap.size ≤ g := by omega
    have hf := (i2.fill (M := (out key info n).map (Value.int .u8)) (by rw [List.take_of_length_le]; simp [out_length key info n hn2])).done (Nat.le_refl _) (by simp [out_length key info n hn2])
    have hgD : g ≠ D := by omega
    refine ⟨by simp, .inl ⟨_, _, rfl, run_takeDeferred hDl, ?_⟩⟩
    have r9 : Row (W.putObj D (.deferred none)) g 5 .u8 (out key info n) := ⟨out_wf _ _ _, (World.putObj_heap_other hgD).trans hf⟩
    refine ⟨_, results_tmp2 rfl _ _ _, g, rfl, ge, r9, ?_⟩
    exact ib.grown (grownBy_putObj' _ D _) ib.size (fun r e => by have := c6.size; cases e; omega)
end Go.Proofs.YtbfdhbobokfbhaaDoor.Hkdf

