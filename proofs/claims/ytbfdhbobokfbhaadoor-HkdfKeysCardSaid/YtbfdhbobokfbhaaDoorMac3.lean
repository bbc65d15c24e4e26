/-
  The function keyed of package mac by its contract: the sum of the key's block, each byte of it turned, and of all parts behind it. Conditions: at most 2^20 parts, of at most 2^39 bytes together; the two tables of package sha lie where the program's text lays them.
-/
import Derived.Test.YtbfdhbobokfbhaaDoorMac2
import Derived.OneCell
namespace Go.Proofs.YtbfdhbobokfbhaaDoor.Mac
open Go.RowKit Go.Shelf Go.Proofs.YtbfdhbobokfbhaaDoor.Mem Go.Proofs.YtbfdhbobokfbhaaDoor.Help Go.Proofs.YtbfdhbobokfbhaaDoor.Sum Go.Proofs.YtbfdhbobokfbhaaDoor.Sha Go.Proofs.YtbfdhbobokfbhaaDoor.Range
set_option linter.unusedVariables false
attribute [local go_sem] Oper.semAt_some

theorem _root_.Go.Proofs.YtbfdhbobokfbhaaDoor.Sha.Texts.slice {w : World} {B : Nat} {vs : List Value} {xss : List (List Int)} (h : Texts w B vs xss) {v : Value} (hv : v ∈ vs) : ∃ A n c, v = .slice A n c := by
  obtain ⟨i, hi, rfl⟩ := List.mem_iff_getElem.1 hv
  obtain ⟨A, n, c, e, _⟩ := h.2 i hi
  rw [List.getD_eq_getElem?_getD, List.getElem?_eq_getElem hi] at e
  exact ⟨A, n, c, e⟩
/-- what stands between two rounds -/
def Inv (w : World) (q g lb m : Nat) (zs : List Int) (pre : List Value) (W : World) : Prop :=
  W.heap[lb]? = some (.cells #[.slice (some ⟨g, 0, none⟩) pre.length (m + 1)] 43 (0, 0)) ∧ W.ownsRow w.heap.size 22 1 (.slice (some ⟨g, 0, none⟩) pre.length (m + 1)) pre.length pre ∧
    Row W w.heap.size 44 .u8 zs ∧ Row W q 25 .u8 (List.replicate 32 0) ∧ Below w.heap.size w W

theorem Inv.far (w : World) (q g lb m : Nat) (zs : List Int) {B : Nat} (hw : w.heap.size < B) (hq : q < B) (hg : g < B) (hl : lb < B) (hwg : w.heap.size ≤ g) : Far B (Inv w q g lb m zs) := by
  intro pre W W' row h hgr hr
  have hne : ∀ i, i < B → some i ≠ row := fun i hi e => by have := hr i e.symm; omega
  obtain ⟨h1, h2, h3, h4, h5⟩ := h
  refine ⟨(hgr.block lb (Array.getElem?_eq_some_iff.1 h1).1 (hne _ hl)).trans h1, h2.kept hgr (.inr (hne _ hg)), h3.grown hgr (hne _ hw), h4.grown hgr (hne _ hq), h5.grown hgr (by have := h3.lt; omega) (fun r e => by have := hr r e; omega)⟩
set_option maxRecDepth 100000 in
set_option maxHeartbeats 4000000 in
theorem keyed_any (t : Int) (zs : List Int) (B : Nat) (A : Option Addr) (m c : Nat) (vs : List Value) (xss : List (List Int)) (w : World) (hz : zs.length = 64) (hzb : Bs zs) (h : Vals w B A m vs) (ht : Texts w B vs xss) (hB : B ≤ w.heap.size) (hm : m ≤ 1048576) (hn : xss.flatten.length ≤ 549755813888)
    (hb : Bs xss.flatten) (hT0 : Tab w 0 Sum.H0) (hT1 : Tab w 1 Sum.K) :
    Calls Tryd.prog 23 #[.agg (arr .u8 zs), .int .u8 t, .slice A m c] w fun e w' => e = .returned (.agg (arr .u8 (Sum.sha (turned t zs ++ xss.flatten)))) ∧ Below w.heap.size w w' := by
  refine (callsIn_wide (n := 3)).1 ?_
  refine callsIn_of_wp_marks Tryd.func23 rfl trivial ?_ rfl
  simp only [Tryd.ntmps23, List.size_toArray, List.length_cons, List.length_nil, Nat.reduceAdd, Nat.reduceSub, Array.replicate_succ, Array.replicate_zero, List.push_toArray, List.append_toArray, List.nil_append, List.cons_append]
  have HZ := Lib.hid hz
  clear hz
  gi_wp2_with (first
    | (refine wpListIn_box_Row rfl 44 _ rfl .u8 zs rfl (fun z hz => wf_of_byte (hzb z hz)) ?_; intro w1 r1 g1 z1)
    | (refine wpListIn_alloc_Row rfl 25 rfl .u8 32 zero_32 ?_; intro w2 r2 g2 z2))
  obtain ⟨q, hq⟩ : ∃ q, w1.heap.size = q := ⟨_, rfl⟩
  have hqw : q = w.heap.size + 1 := by rw [← hq, z1.out]
  rw [hq] at r2 ⊢
  have HQ := Lib.hid hqw
  have b2 : Below w.heap.size w w2 := ((Below.refl _ w).grown g1 (Nat.le_refl _) (by simp)).grown g2 (by have := g1.size; omega) (by simp)
  have r12 := r1.grown g2 (by simp)
  clear hqw hq r1 g1 g2 z1 z2
  gi_loopw [10] (fun i wr => ∃ k : Nat, k ≤ 64 ∧ i = .int .i64 k ∧ Row wr w.heap.size 44 .u8 (part t zs k) ∧ Row wr q 25 .u8 (List.replicate 32 0) ∧ Below w.heap.size w wr) (fun i _ => 64 - (intOf i).toNat)
  case atStart => exact ⟨0, by omega, rfl, by rw [part_start]; exact r12, r2, b2⟩
  case round =>
    clear r12 r2 b2 w1 w2
    obtain ⟨k, hk, rfl, rk, ro, bk⟩ := hrel
    by_cases hlt : k < 64
    · have hkz : k < zs.length := by rw [HZ.out]; exact hlt
      have hc := rk.cell (i := k) (by simp [part, turned]; omega)
      have hf := rk.frozen k
      rw [part_get t zs hkz] at hc
      have HS : Hid (Row (wr.setCell ⟨w.heap.size, k, none⟩ (.int .u8 (flip t (zs.getD k 0)))) w.heap.size 44 .u8 (part t zs (k + 1))) := Lib.hid (by rw [← part_set t zs hkz]; exact rk.set k (flip_wf _ _))
      unfold flip at HS
      have hlt' : (k : Int) < 64 := by omega
      have hk0 : (0 : Int) ≤ (k : Int) := by omega
      have hne : q ≠ w.heap.size := by have := HQ.out; omega
      generalize zs.getD k 0 = x at hc HS
      gi_wp2_with fail
      go_roundw
      case rel => exact ⟨k + 1, by omega, by go_num, HS.out, ro.other (by simpa using hne.symm) _, bk.setCell (by simp) _⟩
      case measure => simp [intOf]; omega
    · have hk64 : k = 64 := by omega
      subst hk64
      rw [part_end t zs (by rw [HZ.out]; omega)] at rk
      have hmi : (m : Int) ≤ 1048576 := by omega
      have hsl64 := fun W => run_slice_arr_all (P := Tryd.prog) 44 5 64 w.heap.size W Tryd.underlying44 (by kernel_rfl) (by omega)
      obtain ⟨i0, hi0, hz0, hs0, hb0⟩ := info_parts info_bytes
      gi_wp2_with (refine wpListIn_make_own _ rfl _ _ 43 rfl w.heap.size 22 i0 (.slice none 0 0) 1 Tryd.underlying43 hi0 hz0 hs0 .i64 .i64 _ (m + 1) rfl rfl (by omega) (by rw [hb0]; omega) (by unfold maxLen; omega) bk.size ?_; intro w3 hown3 hg3)
      obtain ⟨g, hg⟩ : ∃ g, wr.heap.size = g := ⟨_, rfl⟩
      have hqg : q < g := by rw [← hg]; exact ro.lt
      rw [hg] at hown3 ⊢
      have hgl := (hown3.lt g rfl).2
      obtain ⟨lb, hlb⟩ : ∃ lb, w3.heap.size = lb := ⟨_, rfl⟩
      have rk3 := rk.grown hg3 (by simp)
      have ro3 := ro.grown hg3 (by simp)
      have b3 : Below w.heap.size w w3 := bk.grown hg3 bk.size (by simp)
      rw [hlb] at hgl ⊢
      have HLB := Lib.hid hlb
      clear hg hlb hg3 rk ro bk hi0 hz0 hs0 hb0
      refine ⟨trivial, ?_⟩
      refine (callsIn_wide.2 (behind_any _ A 64 64 m c _)).mono ?_
      rintro e W5 ⟨rfl, hW5⟩
      rw [World.size_alloc, HLB.out]
      have hwq := HQ.out
      have z5 : W5.heap.size = lb + 3 := by rw [hW5]; simp [HLB.out]
      have k1 : W5.cell? ⟨lb + 1, 0, none⟩ = some (.slice (some ⟨w.heap.size, 0, none⟩) 64 64) := by rw [hW5, World.cell?_alloc_lt _ _ _ (by simp; have := HLB.out; omega), World.cell?_alloc_at _ _ _ _ (by simp; exact HLB.out.symm)]; rfl
      have k2 : W5.cell? ⟨lb + 2, 0, none⟩ = some (.slice A m c) := by rw [hW5, World.cell?_alloc_at _ _ _ _ (by simp; have := HLB.out; omega)]; rfl
      have k0 : W5.heap[lb]? = some (.cells #[.slice (some ⟨g, 0, none⟩) 0 (m + 1)] 43 (0, 0)) := by
        rw [hW5, Below.heap_alloc _ _ _ (by simp; have := HLB.out; omega), Below.heap_alloc _ _ _ (by simp; have := HLB.out; omega), ← HLB.out]
        exact heap_alloc_new w3 _
      have i5 : Inv w q g lb m (turned t zs) [] W5 := by
        rw [hW5] at k0 ⊢
        exact ⟨k0, ((hown3.alloc _).alloc _).alloc _, ((rk3.alloc _).alloc _).alloc _, ((ro3.alloc _).alloc _).alloc _, ((b3.alloc b3.size _).alloc (by simp; have := b3.size; omega) _).alloc (by simp; have := b3.size; omega) _⟩
      have b5 := i5.2.2.2.2
      have hSlt : ∀ b, b < B → ¬ (b = g ∨ b = lb) := fun b hb e => by omega
      have hit := fun n => behind_far n (lb + 1) (lb + 2) (fun b => b = g ∨ b = lb) (.slice (some ⟨w.heap.size, 0, none⟩) 64 64) A m c vs W5 k1 k2 (by omega) (by omega) rfl ht.one_cell (ValsN.of (h.below (b5.mono hB)) hSlt) (by omega)
      have far : ∀ B', lb < B' → Far B' (Inv w q g lb m (turned t zs)) := fun B' h => Inv.far w q g lb m _ (by omega) (by omega) (by omega) h (by omega)
      have Z5 := Lib.hid z5
      have hwg : w.heap.size < g := by omega
      have hwl : w.heap.size < lb := by omega
      have hgb : g ≠ lb := by omega
      clear hW5 k1 k2 k0 hown3 rk3 ro3 b3 z5 hwq
      gi_wp2_with fail
      refine wpIn_rangeFunc_far rfl (by omega) (gf := 35) (lb := #[.pointer (some ⟨lb + 1, 0, none⟩), .pointer (some ⟨lb + 1 + 1, 0, none⟩)]) rfl trivial (enters_of Tryd.func35 (by kernel_rfl) rfl)
        (hit _) (fun h k => h.trans k) (fun W l o o' hl ho hc _ => Only.put W l o o' ho hc) (Below.refl _ _) (fun _ => rfl)
        (Inv w q g lb m (turned t zs)) (far _ (by have := Z5.out; omega)) i5
        (fun x a' pre W => Inv w q g lb m (turned t zs) pre W ∧ a' = { tmps := #[.agg (arr .u8 zs), .int .u8 t, .slice A m c, .pointer (some ⟨w.heap.size, 0, none⟩), undef, undef, .pointer (some ⟨q, 0, none⟩), u7, .pointer (some ⟨lb, 0, none⟩), x, .int .i64 64, .bool false, u12, u13, u14, u15, u16, u17, u18, u19, .slice A m c, .int .i64 (m : Int), .int .i64 (1 + (m : Int)), .slice (some ⟨g, 0, none⟩) 0 (m + 1), .slice (some ⟨w.heap.size, 0, none⟩) 64 64, .slice A m c, .func (.func 35) #[] #[.pointer (some ⟨lb + 1, 0, none⟩), .pointer (some ⟨lb + 1 + 1, 0, none⟩)], x, undef, undef, undef, undef, undef, undef], defers := [] }) ?ib ?assign ?body ?done
      case ib =>
        rintro x a' pre W W' row ⟨hi, h3⟩ hgr hr
        exact ⟨far (lb + 1) (by omega) pre W W' row hi hgr (fun r e => by have := (hr r e).1; have := Z5.out; omega), h3⟩
      case assign =>
        intro l pre x W K hi hp hsz hK
        gi_wp2_with fail
        exact hK _ _ (KeepsOthers.refl _) (Only.refl _ _) ⟨hi, rfl⟩
      case body =>
        rintro l pre x a' W ⟨⟨i1, i2, i3, i4, ib⟩, rfl⟩ hp hsz
        have hx := List.IsPrefix.length_le hp
        have hpl : pre.length + 1 ≤ m + 1 := by simpa [h.1] using hx
        have hxm : x ∈ (Value.slice (some ⟨w.heap.size, 0, none⟩) 64 64) :: vs := hp.subset (by simp)
        obtain ⟨Ax, nx, cx, rfl⟩ : ∃ Ax nx cx, x = .slice Ax nx cx := by
          rcases List.mem_cons.1 hxm with rfl | hxm
          · exact ⟨_, _, _, rfl⟩
          · exact ht.slice hxm
        have hc := cell_of_one i1
        have hf := free_of_one i1
        have hlw : lb < W.heap.size := (Array.getElem?_eq_some_iff.1 i1).1
        obtain ⟨p, hpp⟩ : ∃ p, pre.length = p := ⟨_, rfl⟩
        rw [hpp] at i1 i2 hc hpl
        have HPP := Lib.hid hpp
        obtain ⟨i0, hi0, hz0, hs0, hb0⟩ := info_parts info_bytes
        have hcx : ∀ (j : Nat) (u : Value), [Value.slice Ax nx cx][j]? = some u → (W.alloc (.cells #[.slice Ax nx cx] 22)).cell? ((⟨W.heap.size, 0, none⟩ : Addr).add j) = some u := fun j u hu => by
          cases j with
          | zero =>
            simp at hu
            subst hu
            rw [show (Addr.mk W.heap.size 0 none).add 0 = ⟨W.heap.size, 0, none⟩ by simp [Addr.add], World.cell?_alloc_at #[.slice Ax nx cx] 22 _ 0 rfl]
            rfl
          | succ j => simp at hu
        have hx1' : ∀ u ∈ [Value.slice Ax nx cx], u.oneCell' = true := fun u hu => by rw [List.mem_singleton.1 hu]; rfl
        have HCX := Lib.hid hcx
        have HX1 := Lib.hid hx1'
        clear hx hxm hp hpp hcx hx1'
        simp only []
        gi_wp2_with (refine wpListIn_append_fits _ rfl _ _ 43 rfl w.heap.size 22 i0 1 Tryd.underlying43 hi0 hs0 g p (m + 1) pre rfl (i2.alloc (.cells #[.slice Ax nx cx] 22)) ⟨W.heap.size, 0, none⟩ 1 1 [.slice Ax nx cx] rfl rfl HCX.out HX1.out (by omega) ?_; intro w6 hown6 hg6; have l6 : w6.heap[lb]? = some (.cells #[.slice (some ⟨g, 0, none⟩) p (m + 1)] 43 (0, 0)) := ((hg6.block lb (by simp; omega) (by intro e; injection e with e; omega)).trans (Below.heap_alloc W _ lb hlw)).trans i1; have f6 := free_of_one l6; have c6 := cell_of_one l6)
        have hgW := i2.2
        obtain ⟨cur, hcur⟩ : ∃ cur, W.heap[g]? = some (.cells cur 22 (0, 0)) := by
          rcases i2.2 with ⟨e, _⟩ | ⟨g', cap, cur, e, _, hgg, _⟩
          · cases e
          · injection e with e1
            injection e1 with e1
            injection e1 with e1
            subst e1
            exact ⟨cur, hgg⟩
        have hgw : g < W.heap.size := (Array.getElem?_eq_some_iff.1 hcur).1
        have ga := World.grownBy_alloc W (.cells #[.slice Ax nx cx] 22) none
        have gs := grown_setCell w6 lb 0 (.slice (some ⟨g, 0, none⟩) (p + 1) (m + 1))
        have hs6 := hg6.size
        rw [World.size_alloc] at hs6
        refine ⟨((KeepsOthers.alloc _ _).trans (KeepsOthers.of_grownBy hg6 (fun j o e ho => ?_))).trans (KeepsOthers.of_grownBy gs (fun j o e ho => ?_)),
          ((Only.of_grown ga (fun r e => by cases e)).trans (Only.of_grown hg6 (fun r e => by cases e; exact .inl rfl))).trans (Only.of_grown gs (fun r e => by cases e; exact .inr rfl)), ?_, ?_, ?_, ?_, ?_⟩
        · cases e
          rw [Below.heap_alloc W _ g hgw, hcur] at ho
          cases ho
          rfl
        · cases e
          rw [l6] at ho
          cases ho
          rfl
        · rw [List.length_append, HPP.out]
          exact one_setCell l6
        · rw [List.length_append, HPP.out]
          exact hown6.kept gs (.inr (fun e => by have e : some g = some lb := e; injection e with e; omega))
        · exact ((i3.alloc _).grown hg6 (fun e => by injection e with e; omega)).grown gs (fun e => by injection e with e; omega)
        · exact ((i4.alloc _).grown hg6 (fun e => by injection e with e; omega)).grown gs (fun e => by injection e with e; omega)
        · exact ((ib.alloc ib.size _).grown hg6 (by have := ib.size; simp; omega) (fun r e => by cases e; omega)).grown gs (by have := ib.size; omega) (fun r e => by cases e; omega)
      case done =>
        intro D W hD ⟨i1, i2, i3, i4, ib⟩ hDl
        have hlen : (Value.slice (some ⟨w.heap.size, 0, none⟩) 64 64 :: vs).length = m + 1 := by rw [List.length_cons, h.1]
        rw [hlen] at i1 i2
        have hc := cell_of_one i1
        have tx := (Texts.one (i3.ints (n := 64) (by rw [turned_length, HZ.out]; omega)) (Nat.le_refl 64) (by simp [maxLen])).cons ((ht.below (ib.mono hB)).more (B' := W.heap.size) (by have := ib.size; omega))
        rw [List.take_of_length_le (by rw [turned_length, HZ.out]; omega)] at tx
        have vx := ownsRow_vals i2 tx.one_cell
        have HF := Lib.hid (show (turned t zs :: xss).flatten = turned t zs ++ xss.flatten from rfl)
        have HL := Lib.hid (show (turned t zs ++ xss.flatten).length ≤ 1099511627776 by rw [List.length_append, turned_length, HZ.out]; omega)
        have HBS := Lib.hid (show Bs (turned t zs ++ xss.flatten) from fun z hz => by
          rcases List.mem_append.1 hz with h1 | h1
          · exact turned_bytes _ _ z h1
          · exact hb z h1)
        have hDq : D ≠ q := by have := Z5.out; have := HQ.out; omega
        clear hlen i1 i2 i3
        gi_wp2_with fail
        refine ⟨trivial, ?_⟩
        refine (callsIn_wide.2 (sum_any _ _ _ _ _ _ _ vx tx (Nat.le_refl _) (by omega) (by rw [HF.out]; exact HL.out) (by rw [HF.out]; exact HBS.out) (hT0.below ib hT0.lt) (hT1.below ib hT1.lt))).mono ?_
        rw [HF.out]
        rintro e W7 ⟨rfl, hb7⟩
        have b7 := ib.trans (hb7.mono ib.size)
        have r7 := i4.below hb7 i4.lt
        have d7 := (hb7.block D (Array.getElem?_eq_some_iff.1 hDl).1).trans hDl
        have hs7 := b7.size
        clear vx tx ib i4 hDl hb7
        gi_wp2_with (refine wpListIn_store_RowTo rfl 25 _ _ rfl q rfl 25 .u8 _ _ rfl r7 32 info_32 (sha_length _) (by simp) (fun z hz => wf_of_byte (sha_bytes _ z hz)) ?_; intro w8 r8 g8 z8; have d8 := (g8.block D (Array.getElem?_eq_some_iff.1 d7).1 (by intro e; injection e with e; omega)).trans d7)
        refine ⟨by simp, .inl ⟨_, _, rfl, run_takeDeferred d8, ?_⟩⟩
        have r9 : Row (w8.putObj D (.deferred none)) q 25 .u8 (Sum.sha (turned t zs ++ xss.flatten)) := ⟨r8.1, (World.putObj_heap_other (fun e => hDq e.symm)).trans r8.2⟩
        refine ⟨.agg (arr .u8 (Sum.sha (turned t zs ++ xss.flatten))), results_Row rfl _ _ q _ _ _ rfl r9 32 5 Tryd.underlying25 info_32 (sha_length _), rfl, ?_⟩
        exact (b7.grown g8 hs7 (fun r e => by have := HQ.out; cases e; omega)).grown (grownBy_putObj' _ D _) (by have := g8.size; omega) (fun r e => by have := Z5.out; cases e; omega)
end Go.Proofs.YtbfdhbobokfbhaaDoor.Mac

