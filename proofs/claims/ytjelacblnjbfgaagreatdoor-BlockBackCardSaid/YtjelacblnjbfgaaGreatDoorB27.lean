/-
  The function Xor of package chacha by its contract.
  The functions Own and Kept of package dominohelp on bytes, each by its contract.
  What the laws on package chacha share: their first line returns true; what the rows' condition on the table gives.
  What the laws on package poly share: Tag of no part, of one, of two and of three; their first line returns true; what the rows' condition on the table gives.
  The functions Equal and Choose of package ct, and what the document says of them, each by its contract.
-/
import Derived.Test.YtjelacblnjbfgaaGreatDoorB26
import Derived.Test.YtjelacblnjbfgaaGreatDoorB8
import Derived.WalkMore
import Derived.Test.YtjelacblnjbfgaaGreatDoorB2
import Derived.Laws.Slices
import Derived.Test.YtjelacblnjbfgaaGreatDoorB25
import Derived.Test.YtjelacblnjbfgaaGreatDoorB18
import Derived.Test.YtjelacblnjbfgaaGreatDoorB10
import Derived.StillTailTactics
import Derived.Deep.OwnRows
set_option linter.unusedVariables false
namespace Go.Proofs.YtjelacblnjbfgaaGreatDoor.Cha
open Go.RowKit Go.Shelf Go.Proofs.YtjelacblnjbfgaaGreatDoor Mem Help Go.Proofs.YtjelacblnjbfgaaGreatDoor.Sum Cc Sha Go.Proofs.YtjelacblnjbfgaaGreatDoor.Range
attribute [local go_sem] Oper.semAt_some
attribute [local irreducible] wpList wpListIn
theorem xors_wf (key nonce : List Int) (ctr : Int) {bs : List Int} (h : Bs bs) : ∀ z ∈ xors key nonce ctr bs, (Lit.int .u8 z).wf = true := bs_wf (xors_bytes key nonce ctr h)
theorem ints_bs {w : World} {B : Nat} {A : Option Addr} {n : Nat} {zs : List Int} (h : Ints w .u8 B A n zs) : Bs zs := fun z hz => wf_u8 (h.2.1 z hz)
theorem xor_none (key nonce : List Int) (ctr : Int) (A : Option Addr) (c : Nat) (w : World) (hkb : Bs key) (hnb : Bs nonce) :
    Calls Tryz.prog 34 #[.agg (arr .u8 key), .agg (arr .u8 nonce), .int .u32 ctr, .slice A 0 c] w fun e w' => e = .returned (.slice none 0 0) ∧ Below w.heap.size w w' := by
  go_enter Tryz.func34, Tryz.ntmps34
  go_wp2_with (first
    | (refine wpList_box_Row (w := w) rfl 22 _ rfl .u8 key rfl (bs_wf hkb) ?_; intro w1 r1 g1 z1)
    | (refine wpList_box_Row (w := w1) rfl 45 _ rfl .u8 nonce rfl (bs_wf hnb) ?_; intro w2 r2 g2 z2)
    | (refine Held.wpList_box_cell (w := w2) rfl 27 _ rfl (.slice A 0 c) rfl rfl ?_; intro w3 h3 g3 z3; have c3 := cell_of_one h3))
  go_step3
  go_wp2_with fail
  rw [Exit.noGoto_ret]
  go_ret
  have s1 := g1.size
  have s2 := g2.size
  exact ⟨rfl, (((Below.refl _ w).grown g1 (Nat.le_refl _) (by simp)).grown g2 (by omega) (by simp)).grown g3 (by omega) (by simp)⟩
def At (w : World) (g lb bb m : Nat) (key nonce : List Int) (ctr : Int) (bs : List Int) (A : Option Addr) (c q : Nat) (W : World) : Prop :=
  W.heap[lb]? = some (.cells #[.slice (some ⟨g, 0, none⟩) q m] 27 (0, 0)) ∧ Mem.Own W w.heap.size 5 .u8 (.slice (some ⟨g, 0, none⟩) q m) (xors key nonce ctr (bs.take q)) ∧
    W.heap[bb]? = some (.cells #[.slice A m c] 27 (0, 0)) ∧ Below w.heap.size w W
theorem At.far {w : World} {g lb bb m : Nat} {key nonce : List Int} {ctr : Int} {bs : List Int} {A : Option Addr} {c q : Nat} {B : Nat} (hw : w.heap.size < B) (hg : g < B) (hl : lb < B) (hb : bb < B) {W W' : World} {row : Option Nat}
    (h : At w g lb bb m key nonce ctr bs A c q W) (hgr : W.grownBy W' row) (hr : ∀ r, row = some r → B ≤ r) : At w g lb bb m key nonce ctr bs A c q W' := by
  have hne : ∀ i, i < B → some i ≠ row := fun i hi e => by have := hr i e.symm; omega
  obtain ⟨h1, h2, h3, h4⟩ := h
  exact ⟨Held.keep_cells h1 hgr (hne _ hl), h2.kept hgr (.inr (hne _ hg)), Held.keep_cells h3 hgr (hne _ hb), h4.grown hgr h4.size (fun r e => by have := hr r e; omega)⟩
def Inv (w : World) (g lb bb m : Nat) (key nonce : List Int) (ctr : Int) (bs : List Int) (A : Option Addr) (c k : Nat) (W : World) : Prop := 64 * k < m ∧ At w g lb bb m key nonce ctr bs A c (64 * k) W
def Done (w : World) (g lb bb m : Nat) (key nonce : List Int) (ctr : Int) (bs : List Int) (A : Option Addr) (c : Nat) (co : Code) (k : Nat) (W : World) : Prop := co = .exit 0 ∧ At w g lb bb m key nonce ctr bs A c m W
theorem Inv.far (w : World) (g lb bb m : Nat) (key nonce : List Int) (ctr : Int) (bs : List Int) (A : Option Addr) (c : Nat) {B : Nat} (hw : w.heap.size < B) (hg : g < B) (hl : lb < B) (hb : bb < B) : Far B (Inv w g lb bb m key nonce ctr bs A c) :=
  fun k W W' row h hgr hr => ⟨h.1, h.2.far hw hg hl hb hgr hr⟩
theorem Done.far (w : World) (g lb bb m : Nat) (key nonce : List Int) (ctr : Int) (bs : List Int) (A : Option Addr) (c : Nat) (co : Code) {B : Nat} (hw : w.heap.size < B) (hg : g < B) (hl : lb < B) (hb : bb < B) : Far B (Done w g lb bb m key nonce ctr bs A c co) :=
  fun k W W' row h hgr hr => ⟨h.1, h.2.far hw hg hl hb hgr hr⟩
theorem stream_block (key nonce : List Int) (ctr : Int) (k j : Nat) (hj : j < 64) : (Cc.block key (addI ctr (k : Int)) nonce).getD j 0 = streamAt key ctr nonce (64 * k + j) := by
  unfold streamAt
  rw [show (64 * k + j) / 64 = k by omega, show (64 * k + j) % 64 = j by omega]
set_option maxRecDepth 100000 in
set_option maxHeartbeats 8000000 in
theorem xor_some (key nonce : List Int) (ctr : Int) (B : Nat) (A : Option Addr) (m c : Nat) (bs : List Int) (w : World) (hi : Ints w .u8 B A m bs) (hB : B ≤ w.heap.size) (hmc : m ≤ c) (hm : m ≤ 17592186044416) (h0 : 0 < m)
    (hk : key.length = 32) (hkb : Bs key) (hn : nonce.length = 12) (hnb : Bs nonce) (hc : R32 ctr) (hT : Tab w 1 sigma) :
    Calls Tryz.prog 34 #[.agg (arr .u8 key), .agg (arr .u8 nonce), .int .u32 ctr, .slice A m c] w fun e w' => ∃ g, e = .returned (.slice (some ⟨g, 0, none⟩) m m) ∧ w.heap.size ≤ g ∧ Row w' g 5 .u8 (xors key nonce ctr bs) ∧ Below w.heap.size w w' := by
  refine (callsIn_wide (n := 3)).1 ?_
  refine callsIn_of_wp_marks Tryz.func34 rfl trivial ?_ rfl
  simp only [Tryz.ntmps34, List.size_toArray, List.length_cons, List.length_nil, Nat.reduceAdd, Nat.reduceSub, Array.replicate_succ, Array.replicate_zero, List.push_toArray, List.append_toArray, List.nil_append, List.cons_append]
  have HK := Lib.hid hk
  have HN := Lib.hid hn
  have HB := Lib.hid hi.1
  have HW := Lib.hid (xors_wf key nonce ctr (ints_bs hi))
  have HX := Lib.hid (fun q (hq : q < m) => xors_snoc key nonce ctr bs (k := q) (by rw [hi.1]; exact hq))
  have HXL' := Lib.hid (fun q (hq : q ≤ m) => show (xors key nonce ctr (bs.take q)).length = q by rw [xors_length, List.length_take, hi.1]; omega)
  have HSB := Lib.hid (fun i => stream_bound key ctr nonce i)
  have HBS := Lib.hid (ints_bs hi)
  have HST := Lib.hid (fun k j (hj : j < 64) => stream_block key nonce ctr k j hj)
  obtain ⟨b, off, rfl, hb, hcell⟩ := hi.2.2 h0
  clear hk hn hi
  obtain ⟨i0, hi0, hz0, hs0, hb0⟩ := info_parts info_u8
  have hm0 : ¬ (m : Int) = 0 := by omega
  have hm0' : ¬ m = 0 := by omega
  gi_wp2_with (first
    | (refine wpListIn_box_Row (w := w) rfl 22 _ rfl .u8 key rfl (bs_wf hkb) ?_; intro w1 r1 g1 z1)
    | (refine wpListIn_box_Row (w := w1) rfl 45 _ rfl .u8 nonce rfl (bs_wf hnb) ?_; intro w2 r2 g2 z2)
    | (refine Held.wpListIn_box_cell (w := w2) rfl 27 _ rfl (.slice (some ⟨b, off, none⟩) m c) rfl rfl ?_; intro w3 h3 g3 z3; have c3 := cell_of_one h3))
  refine wpIn_wide.2 (wp_scope_straight ?_)
  refine (wpIn_wide (n := 3)).1 ?_
  gi_wp2_with (first
    | (refine wpListIn_make_own w3 rfl _ _ 27 rfl w.heap.size 5 i0 (.int .u8 0) 1 Tryz.underlying27 hi0 hz0 hs0 .i64 .i64 _ m rfl rfl (by omega) (by rw [hb0]; omega) (by unfold maxLen; omega) (by have := g1.size; have := g2.size; have := g3.size; omega) ?_; intro w4 hown4 g4)
    | (refine Held.wpListIn_alloc_cell (w := w4) rfl 27 rfl (.slice none 0 0) (by kernel_rfl) rfl ?_; intro w5 h5 g5 z5)
    | (refine Held.wpListIn_store_box (w := w5) rfl 27 _ _ rfl w4.heap.size rfl 27 _ (.slice (some ⟨w3.heap.size, 0, none⟩) 0 m) rfl h5 (by kernel_rfl) rfl rfl ?_; intro w6 h6 g6; have l4 : w3.heap.size < w4.heap.size := (hown4.lt _ rfl).2; have s1 := g1.size; have s2 := g2.size; have s3 := g3.size; have l1 := r1.lt; have l2 := r2.lt; have r16 := ((((r1.grown g2 (by simp)).grown g3 (by simp)).grown g4 (by simp)).grown g5 (by simp)).grown g6 (by intro e; injection e with e; omega); have r26 := (((r2.grown g3 (by simp)).grown g4 (by simp)).grown g5 (by simp)).grown g6 (by intro e; injection e with e; omega))
    | (refine wpListIn_load_Row (w := w6) rfl 22 _ rfl w.heap.size rfl 22 .u8 _ r16 32 5 Tryz.underlying22 info_k32 HK.out ?_)
    | (refine wpListIn_load_Row (w := w6) rfl 45 _ rfl w1.heap.size rfl 45 .u8 _ r26 12 5 Tryz.underlying45 info_n12 HN.out ?_))
  apply wpIn_label
  gi_wp2_with (first
    | (refine wpListIn_load_Row (w := w6) rfl 22 _ rfl w.heap.size rfl 22 .u8 _ r16 32 5 Tryz.underlying22 info_k32 HK.out ?_)
    | (refine wpListIn_load_Row (w := w6) rfl 45 _ rfl w1.heap.size rfl 45 .u8 _ r26 12 5 Tryz.underlying45 info_n12 HN.out ?_))
  obtain ⟨bb, hbb⟩ : ∃ x, w2.heap.size = x := ⟨_, rfl⟩
  obtain ⟨g, hg⟩ : ∃ x, w3.heap.size = x := ⟨_, rfl⟩
  obtain ⟨lb, hlb⟩ : ∃ x, w4.heap.size = x := ⟨_, rfl⟩
  obtain ⟨nn, hnn⟩ : ∃ x, w1.heap.size = x := ⟨_, rfl⟩
  have lbb : w2.heap.size < w3.heap.size := (Array.getElem?_eq_some_iff.1 h3).1
  have l6 : w4.heap.size < w6.heap.size := (Array.getElem?_eq_some_iff.1 h6).1
  have s5 := g5.size
  have b6 : Below w.heap.size w w6 := (((((((Below.refl _ w).grown g1 (Nat.le_refl _) (by simp)).grown g2 s1 (by simp)).grown g3 (by omega) (by simp)).grown g4 (by omega) (by simp)).grown g5 (by omega) (by simp)).grown g6 (by omega) (fun r e => by cases e; omega))
  have o4 : Mem.Own w4 w.heap.size 5 .u8 (.slice (some ⟨w3.heap.size, 0, none⟩) 0 m) (xors key nonce ctr (bs.take 0)) := ⟨by simp [xors], by simpa [xors] using hown4⟩
  have o6 := (o4.kept g5 (.inr (by simp [Value.ownBlock]))).kept g6 (.inr (fun e => by have e : some w3.heap.size = some w4.heap.size := e; injection e with e; omega))
  have n6 := Held.keep_cells (Held.keep_cells (Held.keep_cells h3 g4 (by simp)) g5 (by simp)) g6 (by intro e; injection e with e; omega)
  have hcell6 : ∀ W, Below w.heap.size w W → ∀ i, i < m → W.cell? ⟨b, off + i, none⟩ = some (.int .u8 (bs.getD i 0)) := fun W hW i hi => (hW.cell (p := ⟨b, off + i, none⟩) (by show b < _; omega)).trans (hcell i hi)
  rw [hbb] at l2 lbb n6 ⊢
  rw [hnn] at l1 l2 ⊢
  rw [hg] at lbb l4 h6 o6
  rw [hlb] at l4 l6 h6
  rw [hg, hlb]
  have i6 : Inv w g lb bb m key nonce ctr bs (some ⟨b, off, none⟩) c 0 w6 := ⟨by omega, h6, o6, n6, b6⟩
  have T6 := hT.below b6 hT.lt
  have hT' := hT.lt
  clear h3 c3 hown4 g1 g2 g3 g4 g5 g6 h5 h6 o4 o6 n6 s1 s2 s3 s5 z1 z2 z3 z5 r1 r2 r16 r26 hbb hnn hg hlb hi0 hz0 hs0 hb0 hcell hm0 hm0'
  refine ⟨trivial, ?_⟩
  refine (callsIn_wide.2 (blocks_any key nonce ctr w6 hkb hnb)).mono ?_
  rintro e W6 ⟨xk, xn, xc, rfl, rk, rn, hcx, lk, ln, lc, bx⟩
  have j6 : Inv w g lb bb m key nonce ctr bs (some ⟨b, off, none⟩) c 0 W6 := Inv.far w g lb bb m key nonce ctr bs _ c (B := w6.heap.size) (by omega) (by omega) (by omega) (by omega) 0 _ _ none i6 (grown_of_below bx none) (fun r e => by cases e)
  have c6 := j6.2.2.2.2
  have T6' := hT.below c6 hT'
  have hSlt : ∀ b, b < w.heap.size → ¬ (b = g ∨ b = lb) := fun b hb e => by omega
  have hgW : w6.heap.size ≤ W6.heap.size := bx.size
  have hit := fun n => blocks_stop n xk xn xc (fun b => b = g ∨ b = lb) key nonce ctr W6 rk rn (cell_of_one hcx) (fun e => by omega) (fun e => by omega) (fun e => by omega) HK.out hkb HN.out hnb hc T6' (hSlt _ hT')
  clear rk rn hcx bx i6 b6 T6
  gi_wp2_with fail
  refine wpIn_rangeFunc_stop rfl (by omega) (gf := 77) (lb := #[.pointer (some ⟨xc, 0, none⟩), .pointer (some ⟨xk, 0, none⟩), .pointer (some ⟨xn, 0, none⟩)]) rfl trivial (enters_of Tryz.func77 (by kernel_rfl) rfl)
    (hit _) (fun h k => h.trans k) (fun W l o o' hl ho hc _ => Only.put W l o o' ho hc) (Below.refl _ _) (fun _ => rfl)
    (m + 1) (Inv w g lb bb m key nonce ctr bs (some ⟨b, off, none⟩) c) (Done w g lb bb m key nonce ctr bs (some ⟨b, off, none⟩) c) (Inv.far w g lb bb m key nonce ctr bs _ c (by omega) (by omega) (by omega) (by omega)) (fun co => Done.far w g lb bb m key nonce ctr bs _ c co (by omega) (by omega) (by omega) (by omega)) (fun k W h => by have := h.1; omega) j6
    (fun x a' k W => Inv w g lb bb m key nonce ctr bs (some ⟨b, off, none⟩) c k W ∧ ∃ p, lb < p ∧ Row W p 88 .u8 x ∧ a' = { tmps := #[.agg (arr .u8 key), .agg (arr .u8 nonce), .int .u32 ctr, .slice (some ⟨b, off, none⟩) m c, .pointer (some ⟨w.heap.size, 0, none⟩), .pointer (some ⟨nn, 0, none⟩), undef, .pointer (some ⟨bb, 0, none⟩), .slice none 0 0, .pointer (some ⟨lb, 0, none⟩), .pointer (some ⟨p, 0, none⟩), undef, undef, .slice (some ⟨b, off, none⟩) m c, .int .i64 (m : Int), .bool false, .slice (some ⟨b, off, none⟩) m c, .int .i64 (m : Int), .slice (some ⟨g, 0, none⟩) 0 m, .agg (arr .u8 key), .agg (arr .u8 nonce), .int .u32 ctr, .func (.func 77) #[] #[.pointer (some ⟨xc, 0, none⟩), .pointer (some ⟨xk, 0, none⟩), .pointer (some ⟨xn, 0, none⟩)], .agg (arr .u8 x), undef, undef, undef, undef, undef, undef, undef, undef, undef, undef, undef, undef, undef, undef, undef, undef, undef, undef, undef, undef, undef], defers := [] }) ?ib ?assign ?body ?done ?stop
  case ib =>
    rintro x a' k W W' row ⟨hi, p, hp, hr, h3⟩ hgr hrow
    exact ⟨Inv.far w g lb bb m key nonce ctr bs _ c (B := lb + 1) (by omega) (by omega) (by omega) (by omega) k W W' row hi hgr (fun r e => by have := (hrow r e).1; omega), p, hp, hr.grown hgr (Held.ne_of_cells hr.2 (fun r e => (hrow r e).2)), h3⟩
  case assign =>
    intro l k x W K hi hat hsz hK
    injection hat with hat
    have HXL := Lib.hid (show x.length = 64 by rw [← hat]; exact block_length _ _ _)
    have HXW := Lib.hid (show ∀ z ∈ x, (Lit.int .u8 z).wf = true by rw [← hat]; exact bs_wf (block_bytes _ _ _))
    clear hat
    simp only [Held.zip_one, List.setIfInBounds_toArray, List.set_cons_zero, List.set_cons_succ]
    gi_wp2_with (first
      | (refine wpListIn_alloc_Row rfl 88 rfl .u8 64 zero_64 ?_; intro w1 r1 g1 z1)
      | (refine wpListIn_store_RowTo (w := w1) rfl 88 _ _ rfl W.heap.size rfl 88 .u8 _ x rfl r1 64 info_64 HXL.out (by simp) HXW.out ?_; intro w2 r2 g2 z2))
    have b2 : Below W.heap.size W w2 := ((Below.refl _ W).grown g1 (Nat.le_refl _) (by simp)).grown g2 g1.size (fun r e => by cases e; exact Nat.le_refl _)
    exact hK _ _ ((Held.others_of_new g1).trans (Held.others_of_grown r1.2 g2)) (Only.of_below b2) ⟨Inv.far w g lb bb m key nonce ctr bs _ c (B := W.heap.size) (by omega) (by omega) (by omega) (by omega) k _ _ none hi (grown_of_below b2 none) (fun r e => by cases e), W.heap.size, by omega, r2, rfl⟩
  case body =>
    rintro l k x a' W hl hrec ⟨⟨i0, hAt⟩, p, hp, hr, rfl⟩ hat hsz
    injection hat with hat
    have HXB := Lib.hid hat
    have HXL := Lib.hid (show x.length = 64 by rw [← hat]; exact block_length _ _ _)
    clear hat hrec
    gi_wp2_with (refine wpListIn_load_Row (w := W) rfl 88 _ rfl p rfl 88 .u8 _ hr 64 5 Tryz.underlying88 info_64 HXL.out ?_)
    gi_loopw [25] (fun i wr => ∃ j q : Nat, j ≤ 64 ∧ q = 64 * k + j ∧ q < m ∧ i = .int .i64 j ∧ At w g lb bb m key nonce ctr bs (some ⟨b, off, none⟩) c q wr ∧ KeepsOthers W wr ∧ Only (fun b => b = g ∨ b = lb) W wr) (fun i _ => 64 - (intOf i).toNat)
    case atStart => exact ⟨0, 64 * k, by omega, by omega, i0, rfl, hAt, KeepsOthers.refl _, Only.refl _ _⟩
    case round =>
      clear hAt
      obtain ⟨j, q, hj, hq, hqm, rfl, ⟨i1, i2, i3, i4⟩, kr, orr⟩ := hrel
      have hj0 : (0 : Int) ≤ (j : Int) := by omega
      by_cases hlt : j < 64
      · have hlt' : (j : Int) < 64 := by omega
        have hidx : ∀ X, (Instr.index 88 (.agg (arr .u8 x)) (.int .i64 (j : Int))).run Tryz.prog X = .ok (.int .u8 (x.getD j 0)) X := fun X => run_index_arr _ 5 64 .u8 x j X Tryz.underlying88 (by kernel_rfl) (by kernel_rfl) HXL.out hlt
        have hcy := hcell6 wr i4 q hqm
        have ez : x.getD j 0 = streamAt key ctr nonce q := by rw [← HXB.out, hq]; exact HST.out k j hlt
        have hz := HSB.out q
        have hy := HBS.out.at_ q
        have HXq := Lib.hid (HX.out q hqm)
        rw [ez] at hidx
        have HQL := Lib.hid (HXL'.out q (by omega))
        have cl := cell_of_one i1
        obtain ⟨cs, hcs⟩ := i2.cells_
        have lbW : lb < wr.drew.heap.size := (Array.getElem?_eq_some_iff.1 i1).1
        have gW : g < wr.drew.heap.size := (Array.getElem?_eq_some_iff.1 hcs).1
        have hbW := i4.size
        generalize bs.getD q 0 = y at *
        generalize streamAt key ctr nonce q = z at *
        have keepS : ∀ {X X' : World}, X.heap[bb]? = some (.cells #[.slice (some ⟨b, off, none⟩) m c] 27 (0, 0)) ∧ X.cell? ⟨b, off + q, none⟩ = some (.int .u8 y) → Below X.heap.size X X' → X'.heap[bb]? = some (.cells #[.slice (some ⟨b, off, none⟩) m c] 27 (0, 0)) ∧ X'.cell? ⟨b, off + q, none⟩ = some (.int .u8 y) := fun h hb => ⟨(hb.block bb (Array.getElem?_eq_some_iff.1 h.1).1).trans h.1, (hb.cell (World.block_lt_of_cell? _ _ h.2)).trans h.2⟩
        have keepG : ∀ {X X' : World}, X.heap[bb]? = some (.cells #[.slice (some ⟨b, off, none⟩) m c] 27 (0, 0)) ∧ X.cell? ⟨b, off + q, none⟩ = some (.int .u8 y) → X.grownBy X' (some g) → X'.heap[bb]? = some (.cells #[.slice (some ⟨b, off, none⟩) m c] 27 (0, 0)) ∧ X'.cell? ⟨b, off + q, none⟩ = some (.int .u8 y) := fun {X X'} h hb => ⟨Held.keep_cells h.1 hb (by intro e; injection e with e; omega), (World.cell?_of_block (w := X) (w' := X') (a := ⟨b, off + q, none⟩) (hb.block b (World.block_lt_of_cell? _ _ h.2) (by intro e; injection e with e; omega))).trans h.2⟩
        have keepL : ∀ {X X' : World}, X.heap[bb]? = some (.cells #[.slice (some ⟨b, off, none⟩) m c] 27 (0, 0)) ∧ X.cell? ⟨b, off + q, none⟩ = some (.int .u8 y) → X.grownBy X' (some lb) → X'.heap[bb]? = some (.cells #[.slice (some ⟨b, off, none⟩) m c] 27 (0, 0)) ∧ X'.cell? ⟨b, off + q, none⟩ = some (.int .u8 y) := fun {X X'} h hb => ⟨Held.keep_cells h.1 hb (by intro e; injection e with e; omega), (World.cell?_of_block (w := X) (w' := X') (a := ⟨b, off + q, none⟩) (hb.block b (World.block_lt_of_cell? _ _ h.2) (by intro e; injection e with e; omega))).trans h.2⟩
        gi_wp2_with fail
        refine Held.wpIn_region_heldR (r := some l) (S := fun X => X.heap[bb]? = some (.cells #[.slice (some ⟨b, off, none⟩) m c] 27 (0, 0)) ∧ X.cell? ⟨b, off + q, none⟩ = some (.int .u8 y)) rfl (by kernel_rfl) (by kernel_rfl) (fun a w h => h) ?_
        change wpAnyH _ _ _ _ _ _ _ _ wr.drew
        have c0_0 : wr.drew.heap[bb]? = some (.cells #[.slice (some ⟨b, off, none⟩) m c] 27 (0, 0)) ∧ wr.drew.cell? ⟨b, off + q, none⟩ = some (.int .u8 y) := ⟨i3, hcy⟩
        refine Held.tk (v := .slice (some ⟨b, off, none⟩) m c) 1 (some 29) rfl (Held.y_load rfl rfl (by kernel_rfl) (fun X h => cell_of_one h.1)) c0_0 ?_
        simp only [Act.put, Z1, Z2, Z3]
        refine Held.tk (v := .int .u8 z) 6 (some 34) rfl (Held.y_move rfl rfl) c0_0 ?_
        simp only [Act.put, Z1, Z2, Z3]
        refine Held.two 0 2 (by kernel_rfl) ?_ ?_
        · refine Held.op_load 0 (some 28) 27 ⟨lb, 0, none⟩ (.slice (some ⟨g, 0, none⟩) q m) rfl rfl rfl rfl rfl (Held.run_loadVar_cell _ _ _ _ (by kernel_rfl) cl) ?_
          have c0_1 := c0_0
          refine ⟨c0_1, ?_⟩
          simp only [Act.put, Z1, Z2, Z3]
          refine Held.one 2 (by kernel_rfl) ?_
          refine Held.op_load 2 (some 30) 27 ⟨lb, 0, none⟩ (.slice (some ⟨g, 0, none⟩) q m) rfl rfl rfl rfl rfl (Held.run_loadVar_cell _ _ _ _ (by kernel_rfl) cl) ?_
          have c0_2 := c0_1
          refine ⟨c0_2, ?_⟩
          simp only [Act.put, Z1, Z2, Z3]
          refine Held.tk (v := .int .i64 (q : Int)) 3 (some 31) rfl (Held.y_len rfl rfl (by kernel_rfl)) c0_2 ?_
          simp only [Act.put, Z1, Z2, Z3]
          refine Held.tk (v := .pointer (some ⟨b, off + q, none⟩)) 4 (some 32) rfl (Held.y_addr rfl rfl rfl (fun X => Held.run_addr_slice 27 5 b off m c q .i64 Tryz.underlying27 (by kernel_rfl) hqm X)) c0_2 ?_
          simp only [Act.put, Z1, Z2, Z3]
          refine Held.tk (v := .int .u8 y) 5 (some 33) rfl (Held.y_load rfl rfl (by kernel_rfl) (fun X h => h.2)) c0_2 ?_
          simp only [Act.put, Z1, Z2, Z3]
          refine Held.tk (v := .int .u8 (bits .xor .u8 y z)) 7 (some 35) rfl (Held.y_int rfl rfl rfl (fun X => Held.run_bitop (.inl rfl) _ _ rfl X)) c0_2 ?_
          simp only [Act.put, Z1, Z2, Z3]
          refine Held.one 8 (by kernel_rfl) ?_
          refine Held.op_build_Row 8 (some 36) 27 5 1 .u8 1 [bits .xor .u8 y z] rfl rfl rfl rfl Tryz.underlying27 info_u8 (by simp [Act.eval]) rfl (by omega) (by omega) (by simpa using wf_byte (byte_xor_bound hy hz)) ?_
          intro p8 w8 r8 b8 h8
          have c0_3 := keepS c0_2 b8
          have l8 := (b8.block lb lbW).trans i1
          have cl8 := cell_of_one l8
          have o8 := Mem.Own.below (w := wr.drew) (i2.drewN 1) b8
          have i8 := r8.ints (n := 1) (by simp)
          refine ⟨c0_3, ?_⟩
          simp only [Act.put, Z1, Z2, Z3]
          refine Held.one 9 (by kernel_rfl) ?_
          refine Held.op_append_fits 9 (some 37) 27 rfl rfl rfl rfl w.heap.size 5 .u8 1 Tryz.underlying27 info_u8 g m q (xors key nonce ctr (bs.take q)) rfl HQL.out o8 w8.heap.size (some ⟨p8, 0, none⟩) 1 1 [bits .xor .u8 y z] rfl i8 (q + 1) rfl (by omega) ?_
          intro wA oA gA
          have c0_4 := keepG c0_3 gA
          refine ⟨c0_4, ?_⟩
          simp only [Act.put, Z1, Z2, Z3]
          refine Held.one 10 (by kernel_rfl) ?_
          refine Held.op_store_box 10 none 27 lb 27 _ (.slice (some ⟨g, 0, none⟩) (q + 1) m) rfl rfl rfl rfl rfl rfl (Held.keep_cells l8 gA (by intro e; injection e with e; omega)) (by kernel_rfl) rfl rfl ?_
          intro wB lB gB
          have c0_5 := keepL c0_4 gB
          refine ⟨c0_5, ?_⟩
          simp only [Act.put]
          refine wpAnyH_done (by kernel_rfl) ?_ _
          have cB := cell_of_one lB
          have nB := cell_of_one c0_5.1
          have kW : KeepsOthers W wB := kr.trans (KeepsOthers.trans (KeepsOthers.trans (show KeepsOthers wr w8 from ⟨(Held.others_of_new (w := wr.drew) (grown_of_below b8 none)).size, (Held.others_of_new (w := wr.drew) (grown_of_below b8 none)).same⟩) (Held.others_of_grown ((b8.block g gW).trans hcs) gA)) (Held.others_of_grown (Held.keep_cells l8 gA (by intro e; injection e with e; omega)) gB))
          have oW : Only (fun b => b = g ∨ b = lb) W wB := orr.trans (Only.trans (Only.trans (show Only (fun b => b = g ∨ b = lb) wr w8 from ⟨b8.size, (Only.of_below (S := fun b => b = g ∨ b = lb) b8).block⟩) (Only.of_grown gA (S := fun b => b = g ∨ b = lb) (fun r e => by cases e; exact .inl rfl))) (Only.of_grown gB (fun r e => by cases e; exact .inr rfl)))
          have oB := oA.kept gB (.inr (fun e => by have e : some g = some lb := e; injection e with e; omega))
          rw [← HXq.out] at oB
          have s8 := b8.size
          have s8' : wr.heap.size ≤ w8.heap.size := s8
          have bB : Below w.heap.size w wB := ((i4.trans (Below.mono (show Below wr.heap.size wr w8 from ⟨b8.os, b8.tape, b8.output, b8.size, b8.block⟩) i4.size)).grown gA (Nat.le_trans i4.size s8') (fun r e => by cases e; omega)).grown gB (Nat.le_trans (Nat.le_trans i4.size s8') gA.size) (fun r e => by cases e; omega)
          have aB : At w g lb bb m key nonce ctr bs (some ⟨b, off, none⟩) c (q + 1) wB := ⟨lB, oB, c0_5.1, bB⟩
          clear lB oB bB gA gB oA b8 l8 cl8 o8 i8 r8 h8
          by_cases hlast : q + 1 = m
          · have t1 : (decide (((q : Int) + 1) = (m : Int))) = true := by simp; omega
            rw [hlast] at aB
            gi_wp2_with fail
            exact ⟨kW, rfl, aB⟩
          · have t1 : ¬ (((q : Int) + 1) = (m : Int)) := by omega
            gi_wp2_with fail
            go_roundw
            case rel => exact ⟨j + 1, q + 1, by omega, by omega, by omega, by go_num, aB, kW, oW⟩
            case measure => simp [intOf]; omega
        · refine Held.op_load 2 (some 30) 27 ⟨lb, 0, none⟩ (.slice (some ⟨g, 0, none⟩) q m) rfl rfl rfl rfl rfl (Held.run_loadVar_cell _ _ _ _ (by kernel_rfl) cl) ?_
          have c0_1 := c0_0
          refine ⟨c0_1, ?_⟩
          simp only [Act.put, Z1, Z2, Z3]
          refine Held.tk (v := .int .i64 (q : Int)) 3 (some 31) rfl (Held.y_len rfl rfl (by kernel_rfl)) c0_1 ?_
          simp only [Act.put, Z1, Z2, Z3]
          refine Held.tk (v := .pointer (some ⟨b, off + q, none⟩)) 4 (some 32) rfl (Held.y_addr rfl rfl rfl (fun X => Held.run_addr_slice 27 5 b off m c q .i64 Tryz.underlying27 (by kernel_rfl) hqm X)) c0_1 ?_
          simp only [Act.put, Z1, Z2, Z3]
          refine Held.tk (v := .int .u8 y) 5 (some 33) rfl (Held.y_load rfl rfl (by kernel_rfl) (fun X h => h.2)) c0_1 ?_
          simp only [Act.put, Z1, Z2, Z3]
          refine Held.tk (v := .int .u8 (bits .xor .u8 y z)) 7 (some 35) rfl (Held.y_int rfl rfl rfl (fun X => Held.run_bitop (.inl rfl) _ _ rfl X)) c0_1 ?_
          simp only [Act.put, Z1, Z2, Z3]
          refine Held.two 0 8 (by kernel_rfl) ?_ ?_
          · refine Held.op_load 0 (some 28) 27 ⟨lb, 0, none⟩ (.slice (some ⟨g, 0, none⟩) q m) rfl rfl rfl rfl rfl (Held.run_loadVar_cell _ _ _ _ (by kernel_rfl) cl) ?_
            have c0_2 := c0_1
            refine ⟨c0_2, ?_⟩
            simp only [Act.put, Z1, Z2, Z3]
            refine Held.one 8 (by kernel_rfl) ?_
            refine Held.op_build_Row 8 (some 36) 27 5 1 .u8 1 [bits .xor .u8 y z] rfl rfl rfl rfl Tryz.underlying27 info_u8 (by simp [Act.eval]) rfl (by omega) (by omega) (by simpa using wf_byte (byte_xor_bound hy hz)) ?_
            intro p8 w8 r8 b8 h8
            have c0_3 := keepS c0_2 b8
            have l8 := (b8.block lb lbW).trans i1
            have cl8 := cell_of_one l8
            have o8 := Mem.Own.below (w := wr.drew) (i2.drewN 1) b8
            have i8 := r8.ints (n := 1) (by simp)
            refine ⟨c0_3, ?_⟩
            simp only [Act.put, Z1, Z2, Z3]
            refine Held.one 9 (by kernel_rfl) ?_
            refine Held.op_append_fits 9 (some 37) 27 rfl rfl rfl rfl w.heap.size 5 .u8 1 Tryz.underlying27 info_u8 g m q (xors key nonce ctr (bs.take q)) rfl HQL.out o8 w8.heap.size (some ⟨p8, 0, none⟩) 1 1 [bits .xor .u8 y z] rfl i8 (q + 1) rfl (by omega) ?_
            intro wA oA gA
            have c0_4 := keepG c0_3 gA
            refine ⟨c0_4, ?_⟩
            simp only [Act.put, Z1, Z2, Z3]
            refine Held.one 10 (by kernel_rfl) ?_
            refine Held.op_store_box 10 none 27 lb 27 _ (.slice (some ⟨g, 0, none⟩) (q + 1) m) rfl rfl rfl rfl rfl rfl (Held.keep_cells l8 gA (by intro e; injection e with e; omega)) (by kernel_rfl) rfl rfl ?_
            intro wB lB gB
            have c0_5 := keepL c0_4 gB
            refine ⟨c0_5, ?_⟩
            simp only [Act.put]
            refine wpAnyH_done (by kernel_rfl) ?_ _
            have cB := cell_of_one lB
            have nB := cell_of_one c0_5.1
            have kW : KeepsOthers W wB := kr.trans (KeepsOthers.trans (KeepsOthers.trans (show KeepsOthers wr w8 from ⟨(Held.others_of_new (w := wr.drew) (grown_of_below b8 none)).size, (Held.others_of_new (w := wr.drew) (grown_of_below b8 none)).same⟩) (Held.others_of_grown ((b8.block g gW).trans hcs) gA)) (Held.others_of_grown (Held.keep_cells l8 gA (by intro e; injection e with e; omega)) gB))
            have oW : Only (fun b => b = g ∨ b = lb) W wB := orr.trans (Only.trans (Only.trans (show Only (fun b => b = g ∨ b = lb) wr w8 from ⟨b8.size, (Only.of_below (S := fun b => b = g ∨ b = lb) b8).block⟩) (Only.of_grown gA (S := fun b => b = g ∨ b = lb) (fun r e => by cases e; exact .inl rfl))) (Only.of_grown gB (fun r e => by cases e; exact .inr rfl)))
            have oB := oA.kept gB (.inr (fun e => by have e : some g = some lb := e; injection e with e; omega))
            rw [← HXq.out] at oB
            have s8 := b8.size
            have s8' : wr.heap.size ≤ w8.heap.size := s8
            have bB : Below w.heap.size w wB := ((i4.trans (Below.mono (show Below wr.heap.size wr w8 from ⟨b8.os, b8.tape, b8.output, b8.size, b8.block⟩) i4.size)).grown gA (Nat.le_trans i4.size s8') (fun r e => by cases e; omega)).grown gB (Nat.le_trans (Nat.le_trans i4.size s8') gA.size) (fun r e => by cases e; omega)
            have aB : At w g lb bb m key nonce ctr bs (some ⟨b, off, none⟩) c (q + 1) wB := ⟨lB, oB, c0_5.1, bB⟩
            clear lB oB bB gA gB oA b8 l8 cl8 o8 i8 r8 h8
            by_cases hlast : q + 1 = m
            · have t1 : (decide (((q : Int) + 1) = (m : Int))) = true := by simp; omega
              rw [hlast] at aB
              gi_wp2_with fail
              exact ⟨kW, rfl, aB⟩
            · have t1 : ¬ (((q : Int) + 1) = (m : Int)) := by omega
              gi_wp2_with fail
              go_roundw
              case rel => exact ⟨j + 1, q + 1, by omega, by omega, by omega, by go_num, aB, kW, oW⟩
              case measure => simp [intOf]; omega
          · refine Held.op_build_Row 8 (some 36) 27 5 1 .u8 1 [bits .xor .u8 y z] rfl rfl rfl rfl Tryz.underlying27 info_u8 (by simp [Act.eval]) rfl (by omega) (by omega) (by simpa using wf_byte (byte_xor_bound hy hz)) ?_
            intro p8 w8 r8 b8 h8
            have c0_2 := keepS c0_1 b8
            have l8 := (b8.block lb lbW).trans i1
            have cl8 := cell_of_one l8
            have o8 := Mem.Own.below (w := wr.drew) (i2.drewN 1) b8
            have i8 := r8.ints (n := 1) (by simp)
            refine ⟨c0_2, ?_⟩
            simp only [Act.put, Z1, Z2, Z3]
            refine Held.one 0 (by kernel_rfl) ?_
            refine Held.op_load 0 (some 28) 27 ⟨lb, 0, none⟩ (.slice (some ⟨g, 0, none⟩) q m) rfl rfl rfl rfl rfl (Held.run_loadVar_cell _ _ _ _ (by kernel_rfl) cl8) ?_
            have c0_3 := c0_2
            refine ⟨c0_3, ?_⟩
            simp only [Act.put, Z1, Z2, Z3]
            refine Held.one 9 (by kernel_rfl) ?_
            refine Held.op_append_fits 9 (some 37) 27 rfl rfl rfl rfl w.heap.size 5 .u8 1 Tryz.underlying27 info_u8 g m q (xors key nonce ctr (bs.take q)) rfl HQL.out o8 w8.heap.size (some ⟨p8, 0, none⟩) 1 1 [bits .xor .u8 y z] rfl i8 (q + 1) rfl (by omega) ?_
            intro wA oA gA
            have c0_4 := keepG c0_3 gA
            refine ⟨c0_4, ?_⟩
            simp only [Act.put, Z1, Z2, Z3]
            refine Held.one 10 (by kernel_rfl) ?_
            refine Held.op_store_box 10 none 27 lb 27 _ (.slice (some ⟨g, 0, none⟩) (q + 1) m) rfl rfl rfl rfl rfl rfl (Held.keep_cells l8 gA (by intro e; injection e with e; omega)) (by kernel_rfl) rfl rfl ?_
            intro wB lB gB
            have c0_5 := keepL c0_4 gB
            refine ⟨c0_5, ?_⟩
            simp only [Act.put]
            refine wpAnyH_done (by kernel_rfl) ?_ _
            have cB := cell_of_one lB
            have nB := cell_of_one c0_5.1
            have kW : KeepsOthers W wB := kr.trans (KeepsOthers.trans (KeepsOthers.trans (show KeepsOthers wr w8 from ⟨(Held.others_of_new (w := wr.drew) (grown_of_below b8 none)).size, (Held.others_of_new (w := wr.drew) (grown_of_below b8 none)).same⟩) (Held.others_of_grown ((b8.block g gW).trans hcs) gA)) (Held.others_of_grown (Held.keep_cells l8 gA (by intro e; injection e with e; omega)) gB))
            have oW : Only (fun b => b = g ∨ b = lb) W wB := orr.trans (Only.trans (Only.trans (show Only (fun b => b = g ∨ b = lb) wr w8 from ⟨b8.size, (Only.of_below (S := fun b => b = g ∨ b = lb) b8).block⟩) (Only.of_grown gA (S := fun b => b = g ∨ b = lb) (fun r e => by cases e; exact .inl rfl))) (Only.of_grown gB (fun r e => by cases e; exact .inr rfl)))
            have oB := oA.kept gB (.inr (fun e => by have e : some g = some lb := e; injection e with e; omega))
            rw [← HXq.out] at oB
            have s8 := b8.size
            have s8' : wr.heap.size ≤ w8.heap.size := s8
            have bB : Below w.heap.size w wB := ((i4.trans (Below.mono (show Below wr.heap.size wr w8 from ⟨b8.os, b8.tape, b8.output, b8.size, b8.block⟩) i4.size)).grown gA (Nat.le_trans i4.size s8') (fun r e => by cases e; omega)).grown gB (Nat.le_trans (Nat.le_trans i4.size s8') gA.size) (fun r e => by cases e; omega)
            have aB : At w g lb bb m key nonce ctr bs (some ⟨b, off, none⟩) c (q + 1) wB := ⟨lB, oB, c0_5.1, bB⟩
            clear lB oB bB gA gB oA b8 l8 cl8 o8 i8 r8 h8
            by_cases hlast : q + 1 = m
            · have t1 : (decide (((q : Int) + 1) = (m : Int))) = true := by simp; omega
              rw [hlast] at aB
              gi_wp2_with fail
              exact ⟨kW, rfl, aB⟩
            · have t1 : ¬ (((q : Int) + 1) = (m : Int)) := by omega
              gi_wp2_with fail
              go_roundw
              case rel => exact ⟨j + 1, q + 1, by omega, by omega, by omega, by go_num, aB, kW, oW⟩
              case measure => simp [intOf]; omega
      · have hj64 : j = 64 := by omega
        subst hj64
        gi_wp2_with fail
        exact ⟨kr, orr, by omega, by rw [show 64 * (k + 1) = q by omega]; exact ⟨i1, i2, i3, i4⟩⟩
  case done =>
    rintro D k W hD hat _ hDl
    cases hat
  case stop =>
    rintro D co k W hD ⟨rfl, i1, i2, i3, ib⟩ hDl
    have cl := cell_of_one i1
    gi_wp2_with fail
    have ge : w.heap.size ≤ g := by omega
    have hf := (i2.fill (M := (xors key nonce ctr bs).map (Value.int .u8)) (by rw [List.take_of_length_le (by simp [xors_length, HB.out]), List.take_of_length_le (by rw [HB.out]; omega)])).done (Nat.le_refl _) (by simp [xors_length, HB.out])
    have hgD : g ≠ D := by omega
    refine ⟨by simp, .inl ⟨_, _, rfl, run_takeDeferred hDl, ?_⟩⟩
    have r9 : Row (W.putObj D (.deferred none)) g 5 .u8 (xors key nonce ctr bs) := ⟨HW.out, (World.putObj_heap_other hgD).trans hf⟩
    refine ⟨_, results_tmp rfl _ _ _, g, rfl, ge, r9, ?_⟩
    exact ib.grown (grownBy_putObj' _ D _) ib.size (fun r e => by have := c6.size; cases e; omega)
theorem xor_any (key nonce : List Int) (ctr : Int) (B : Nat) (A : Option Addr) (m c : Nat) (bs : List Int) (w : World) (hi : Ints w .u8 B A m bs) (hB : B ≤ w.heap.size) (hmc : m ≤ c) (hm : m ≤ 17592186044416)
    (hk : key.length = 32) (hkb : Bs key) (hn : nonce.length = 12) (hnb : Bs nonce) (hc : R32 ctr) (hT : Tab w 1 sigma) :
    Calls Tryz.prog 34 #[.agg (arr .u8 key), .agg (arr .u8 nonce), .int .u32 ctr, .slice A m c] w fun e w' => ∃ A' c', e = .returned (.slice A' m c') ∧ m ≤ c' ∧ c' ≤ 17592186044416 ∧ Mem.Own w' w.heap.size 5 .u8 (.slice A' m c') (xors key nonce ctr bs) ∧ Below w.heap.size w w' := by
  have hl := hi.1
  by_cases h0 : m = 0
  · subst h0
    have hz : bs = [] := List.eq_nil_of_length_eq_zero hl
    subst hz
    refine (xor_none key nonce ctr A c w hkb hnb).mono ?_
    rintro e w' ⟨rfl, b⟩
    exact ⟨none, 0, rfl, Nat.le_refl _, by omega, by simpa [xors] using Own.nil w' w.heap.size 5 .u8, b⟩
  · refine (xor_some key nonce ctr B A m c bs w hi hB hmc hm (by omega) hk hkb hn hnb hc hT).mono ?_
    rintro e w' ⟨g, rfl, hg, r, b⟩
    have hL : (xors key nonce ctr bs).length = m := by rw [xors_length, hl]
    have := r.own hg (n := m) (by omega) (by rw [hL]; unfold maxLen; omega)
    rw [hL, List.take_of_length_le (by omega)] at this
    exact ⟨_, m, rfl, Nat.le_refl _, hm, this, b⟩
end Go.Proofs.YtjelacblnjbfgaaGreatDoor.Cha
namespace Go.Proofs.YtjelacblnjbfgaaGreatDoor.Help
open Go.RowKit Mem
end Go.Proofs.YtjelacblnjbfgaaGreatDoor.Help
namespace Go.Proofs.YtjelacblnjbfgaaGreatDoor.Cha
open Go.RowKit Go.Shelf Go.Proofs.YtjelacblnjbfgaaGreatDoor Mem Help Go.Proofs.YtjelacblnjbfgaaGreatDoor.Sum Cc Sha
attribute [local irreducible] wpList wpListIn
end Go.Proofs.YtjelacblnjbfgaaGreatDoor.Cha
namespace Go.Proofs.YtjelacblnjbfgaaGreatDoor.Po
open Go.RowKit Go.Shelf Mem Go.Proofs.YtjelacblnjbfgaaGreatDoor.Sum Sha
attribute [local irreducible] wpList wpListIn
end Go.Proofs.YtjelacblnjbfgaaGreatDoor.Po
namespace Go.Proofs.YtjelacblnjbfgaaGreatDoor.Ct
open Go.RowKit Go.Proofs.YtjelacblnjbfgaaGreatDoor.Bit Mem Help
def eqI (xs ys : List Int) : Int := if xs = ys then 1 else 0
theorem equal_any (B B' : Nat) (A A' : Option Addr) (n n' c c' : Nat) (zs zs' : List Int) (w : World) (h : Ints w .u8 B A n zs) (h' : Ints w .u8 B' A' n' zs') (hn : n ≤ 17592186044416) (hn' : n' ≤ 17592186044416) :
    Calls Tryz.prog 46 #[.slice A n c, .slice A' n' c'] w fun e w' => e = .returned (.int .u64 (eqI zs zs')) ∧ Still w w' := by
  by_cases hnn : n = n'
  · subst hnn
    have hne : ((n : Int) != (n : Int)) = false := by simp
    have HL := Lib.hid h.1
    have HL' := Lib.hid h'.1
    go_enter Tryz.func46, Tryz.ntmps46
    go_wp2_with fail
    go_loopw [5, 14] (fun d i wr => ∃ (k : Nat) (q : Int), k ≤ n ∧ i = .int .i64 k ∧ d = .int .u8 q ∧ 0 ≤ q ∧ q ≤ 255 ∧ Still w wr ∧ Hid (q = 0 ↔ zs.take k = zs'.take k)) (fun _ i _ => n - (intOf i).toNat)
    case atStart => exact ⟨0, 0, by omega, rfl, rfl, by omega, by omega, Still.refl _, Lib.hid (by simp)⟩
    case round =>
      obtain ⟨k, q, hk, rfl, rfl, hq0, hq1, hst, ht⟩ := hrel
      by_cases hlt : k < n
      · obtain ⟨b, off, rfl, hb, hc⟩ := (hst.ints h).at_ hlt
        obtain ⟨b', off', rfl, hb', hc'⟩ := (hst.ints h').at_ hlt
        have hlt' : (k : Int) < (n : Int) := by omega
        have hk0 : (0 : Int) ≤ (k : Int) := by omega
        have rx := wf_u8 (h.range hlt)
        have ry := wf_u8 (h'.range hlt)
        have G := gather_u8 q (zs.getD k 0) (zs'.getD k 0) ⟨hq0, hq1⟩ rx ry
        have HT := Lib.hid (show (bits .or .u8 q (bits .xor .u8 (zs.getD k 0) (zs'.getD k 0)) = 0 ↔ zs.take (k + 1) = zs'.take (k + 1)) by
          rw [G.2.2]
          constructor
          · rintro ⟨e1, e2⟩
            exact take_step (by have := HL.out; omega) (by have := HL'.out; omega) (ht.out.1 e1) e2
          · intro e
            have e1 : zs.take k = zs'.take k := by
              have := congrArg (List.take k) e
              simpa [List.take_take] using this
            refine ⟨ht.out.2 e1, ?_⟩
            have := congrArg (fun l => l[k]?) e
            simp only [List.getElem?_take, show k < k + 1 by omega, if_true] at this
            simp only [List.getD_eq_getElem?_getD, this])
        have G1 := G.1
        have G2 := G.2.1
        clear G
        generalize zs.getD k 0 = x at hc rx HT G1 G2
        generalize zs'.getD k 0 = y at hc' ry HT G1 G2
        go_wp2_with fail
        go_quiet (fail)
        go_wp2_with fail
        go_roundw
        case rel => exact ⟨k + 1, _, by omega, by go_num, rfl, G1, G2, hst.drewN _, HT⟩
        case measure => simp [intOf]; omega
      · have HF := Lib.hid (show alike q 0 = eqI zs zs' by
          have e1 := ht.out
          rw [List.take_of_length_le (by have := HL.out; omega), List.take_of_length_le (by have := HL'.out; omega)] at e1
          unfold alike eqI
          by_cases e : q = 0
          · rw [if_pos e, if_pos (e1.1 e)]
          · rw [if_neg e, if_neg (fun h => e (e1.2 h))])
        go_wp2_with fail
        refine (same_any _ _ (by omega) (by omega) (by omega) (by omega) _).mono ?_
        rintro e w' ⟨rfl, rfl⟩
        go_wp2_with fail
        go_ret
        exact ⟨ret_int HF.out, hst⟩
  · have hne : ((n : Int) != (n' : Int)) = true := by simp; omega
    have HF := Lib.hid (show eqI zs zs' = 0 by
      unfold eqI; rw [if_neg]; intro e; exact hnn (by rw [← h.1, ← h'.1, e]))
    clear h h' hnn
    go_enter Tryz.func46, Tryz.ntmps46
    go_wp2_with fail
    go_ret
    exact ⟨ret_int HF.out.symm, Still.refl _⟩
theorem still_of {P : Program} {f : FuncId} {args : Array Value} {w : World} {v : Value} (h : Calls P f args w fun e w' => e = .returned v ∧ w = w') : Calls P f args w fun e w' => e = .returned v ∧ w' = w :=
  h.mono fun _ _ ⟨a, b⟩ => ⟨a, b.symm⟩
end Go.Proofs.YtjelacblnjbfgaaGreatDoor.Ct
