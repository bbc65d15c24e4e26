/-
  The function keyed of package mac by its contract: the sum of the key's block, each byte of it turned, and of all parts behind it. Conditions: at most 2^20 parts, of at most 2^39 bytes together; the two tables of package sha lie where the program's text lays them.
  Two arrays of the same integers are alike, by the model's own '=='.
  append(s, make([]T, m)...) onto what the call owns, for numbers: no program here. No conditions beyond those stated.
  A region that draws its order, gone through by hand, operation by operation: what hangs on no world is taken first, what comes up alone is carried out. No program here. No conditions beyond those stated.
  The function Tag of package mac by its contract: HMAC of all parts, one behind the other. Conditions: at most 2^20 parts, of at most 2^39 bytes together; the two tables of package sha lie where the program's text lays them.
  mac.Tag of parts that the caller has just laid into a list, by its contract. Conditions: the key and the parts read as lists of bytes, of at most 2^39 bytes in all; the two tables of package sha lie where the program's text lays them.
  A table stays where only other blocks change: no program here. No conditions beyond those stated.
-/
import Derived.Test.YtoelgcdjhekafaaDoorB4
import Derived.OneCell
import Derived.Test.YtoelgcdjhekafaaDoorB1
import Derived.Laws.StructEq
import Derived.ChangeKeysEq
import Derived.Lib.AppendZerosOnto
import Derived.Maps.AppendAt
import Derived.Test.YtoelgcdjhekafaaDoorB2
import Derived.Deep.RegionHeld
import Derived.Great.BuildSlice
import Derived.Great.FillDense
import Derived.Shelf.Abstract
import Derived.Test.YtoelgcdjhekafaaDoorB3
namespace Go.Proofs.YtoelgcdjhekafaaDoor.Mac
open Go.RowKit Go.Shelf Go.Proofs.YtoelgcdjhekafaaDoor.Mem Go.Proofs.YtoelgcdjhekafaaDoor.Help Go.Proofs.YtoelgcdjhekafaaDoor.Sum Go.Proofs.YtoelgcdjhekafaaDoor.Sha Go.Proofs.YtoelgcdjhekafaaDoor.Range
set_option linter.unusedVariables false
attribute [local go_sem] Oper.semAt_some

theorem _root_.Go.Proofs.YtoelgcdjhekafaaDoor.Sha.Texts.slice {w : World} {B : Nat} {vs : List Value} {xss : List (List Int)} (h : Texts w B vs xss) {v : Value} (hv : v ∈ vs) : ∃ A n c, v = .slice A n c := by
  obtain ⟨i, hi, rfl⟩ := List.mem_iff_getElem.1 hv
  obtain ⟨A, n, c, e, _⟩ := h.2 i hi
  rw [List.getD_eq_getElem?_getD, List.getElem?_eq_getElem hi] at e
  exact ⟨A, n, c, e⟩
/-- what stands between two rounds -/
def Inv (w : World) (q g lb m : Nat) (zs : List Int) (pre : List Value) (W : World) : Prop :=
  W.heap[lb]? = some (.cells #[.slice (some ⟨g, 0, none⟩) pre.length (m + 1)] 85 (0, 0)) ∧ W.ownsRow w.heap.size 34 1 (.slice (some ⟨g, 0, none⟩) pre.length (m + 1)) pre.length pre ∧
    Row W w.heap.size 86 .u8 zs ∧ Row W q 22 .u8 (List.replicate 32 0) ∧ Below w.heap.size w W

theorem Inv.far (w : World) (q g lb m : Nat) (zs : List Int) {B : Nat} (hw : w.heap.size < B) (hq : q < B) (hg : g < B) (hl : lb < B) (hwg : w.heap.size ≤ g) : Far B (Inv w q g lb m zs) := by
  intro pre W W' row h hgr hr
  have hne : ∀ i, i < B → some i ≠ row := fun i hi e => by have := hr i e.symm; omega
  obtain ⟨h1, h2, h3, h4, h5⟩ := h
  refine ⟨(hgr.block lb (Array.getElem?_eq_some_iff.1 h1).1 (hne _ hl)).trans h1, h2.kept hgr (.inr (hne _ hg)), h3.grown hgr (hne _ hw), h4.grown hgr (hne _ hq), h5.grown hgr (by have := h3.lt; omega) (fun r e => by have := hr r e; omega)⟩
set_option maxRecDepth 100000 in
set_option maxHeartbeats 4000000 in
theorem keyed_any (t : Int) (zs : List Int) (B : Nat) (A : Option Addr) (m c : Nat) (vs : List Value) (xss : List (List Int)) (w : World) (hz : zs.length = 64) (hzb : Bs zs) (h : Vals w B A m vs) (ht : Texts w B vs xss) (hB : B ≤ w.heap.size) (hm : m ≤ 1048576) (hn : xss.flatten.length ≤ 549755813888)
    (hb : Bs xss.flatten) (hT0 : Tab w 3 Sum.H0) (hT1 : Tab w 4 Sum.K) :
    Calls Tryd.prog 61 #[.agg (arr .u8 zs), .int .u8 t, .slice A m c] w fun e w' => e = .returned (.agg (arr .u8 (Sum.sha (turned t zs ++ xss.flatten)))) ∧ Below w.heap.size w w' := by
  refine (callsIn_wide (n := 3)).1 ?_
  refine callsIn_of_wp_marks Tryd.func61 rfl trivial ?_ rfl
  simp only [Tryd.ntmps61, List.size_toArray, List.length_cons, List.length_nil, Nat.reduceAdd, Nat.reduceSub, Array.replicate_succ, Array.replicate_zero, List.push_toArray, List.append_toArray, List.nil_append, List.cons_append]
  have HZ := Lib.hid hz
  clear hz
  gi_wp2_with (first
    | (refine wpListIn_box_Row rfl 86 _ rfl .u8 zs rfl (fun z hz => wf_of_byte (hzb z hz)) ?_; intro w1 r1 g1 z1)
    | (refine wpListIn_alloc_Row rfl 22 rfl .u8 32 zero_32 ?_; intro w2 r2 g2 z2))
  obtain ⟨q, hq⟩ : ∃ q, w1.heap.size = q := ⟨_, rfl⟩
  have hqw : q = w.heap.size + 1 := by rw [← hq, z1.out]
  rw [hq] at r2 ⊢
  have HQ := Lib.hid hqw
  have b2 : Below w.heap.size w w2 := ((Below.refl _ w).grown g1 (Nat.le_refl _) (by simp)).grown g2 (by have := g1.size; omega) (by simp)
  have r12 := r1.grown g2 (by simp)
  clear hqw hq r1 g1 g2 z1 z2
  gi_loopw [10] (fun i wr => ∃ k : Nat, k ≤ 64 ∧ i = .int .i64 k ∧ Row wr w.heap.size 86 .u8 (part t zs k) ∧ Row wr q 22 .u8 (List.replicate 32 0) ∧ Below w.heap.size w wr) (fun i _ => 64 - (intOf i).toNat)
  case atStart => exact ⟨0, by omega, rfl, by rw [part_start]; exact r12, r2, b2⟩
  case round =>
    clear r12 r2 b2 w1 w2
    obtain ⟨k, hk, rfl, rk, ro, bk⟩ := hrel
    by_cases hlt : k < 64
    · have hkz : k < zs.length := by rw [HZ.out]; exact hlt
      have hc := rk.cell (i := k) (by simp [part, turned]; omega)
      have hf := rk.frozen k
      rw [part_get t zs hkz] at hc
      have HS : Hid (Row (wr.setCell ⟨w.heap.size, k, none⟩ (.int .u8 (flip t (zs.getD k 0)))) w.heap.size 86 .u8 (part t zs (k + 1))) := Lib.hid (by rw [← part_set t zs hkz]; exact rk.set k (flip_wf _ _))
      unfold flip at HS
      have hlt' : (k : Int) < 64 := by omega
      have hk0 : (0 : Int) ≤ (k : Int) := by omega
      have hne : q ≠ w.heap.size := by have := HQ.out; omega
      generalize zs.getD k 0 = x at hc HS
      gi_wp2_with fail
      go_roundw
      case rel => exact ⟨k + 1, by omega, by go_num, HS.out, ro.other (by simpa using hne.symm) _, bk.setCell (by simp) _⟩
      case measure => simp [intOf]; omega
    · have hk64 : k = 64 := by omega
      subst hk64
      rw [part_end t zs (by rw [HZ.out]; omega)] at rk
      have hmi : (m : Int) ≤ 1048576 := by omega
      have hsl64 := fun W => run_slice_arr_all (P := Tryd.prog) 86 5 64 w.heap.size W Tryd.underlying86 (by kernel_rfl) (by omega)
      obtain ⟨i0, hi0, hz0, hs0, hb0⟩ := info_parts info_bytes
      gi_wp2_with (refine wpListIn_make_own _ rfl _ _ 85 rfl w.heap.size 34 i0 (.slice none 0 0) 1 Tryd.underlying85 hi0 hz0 hs0 .i64 .i64 _ (m + 1) rfl rfl (by omega) (by rw [hb0]; omega) (by unfold maxLen; omega) bk.size ?_; intro w3 hown3 hg3)
      obtain ⟨g, hg⟩ : ∃ g, wr.heap.size = g := ⟨_, rfl⟩
      have hqg : q < g := by rw [← hg]; exact ro.lt
      rw [hg] at hown3 ⊢
      have hgl := (hown3.lt g rfl).2
      obtain ⟨lb, hlb⟩ : ∃ lb, w3.heap.size = lb := ⟨_, rfl⟩
      have rk3 := rk.grown hg3 (by simp)
      have ro3 := ro.grown hg3 (by simp)
      have b3 : Below w.heap.size w w3 := bk.grown hg3 bk.size (by simp)
      rw [hlb] at hgl ⊢
      have HLB := Lib.hid hlb
      clear hg hlb hg3 rk ro bk hi0 hz0 hs0 hb0
      refine ⟨trivial, ?_⟩
      refine (callsIn_wide.2 (behind_any _ A 64 64 m c _)).mono ?_
      rintro e W5 ⟨rfl, hW5⟩
      rw [World.size_alloc, HLB.out]
      have hwq := HQ.out
      have z5 : W5.heap.size = lb + 3 := by rw [hW5]; simp [HLB.out]
      have k1 : W5.cell? ⟨lb + 1, 0, none⟩ = some (.slice (some ⟨w.heap.size, 0, none⟩) 64 64) := by rw [hW5, World.cell?_alloc_lt _ _ _ (by simp; have := HLB.out; omega), World.cell?_alloc_at _ _ _ _ (by simp; exact HLB.out.symm)]; rfl
      have k2 : W5.cell? ⟨lb + 2, 0, none⟩ = some (.slice A m c) := by rw [hW5, World.cell?_alloc_at _ _ _ _ (by simp; have := HLB.out; omega)]; rfl
      have k0 : W5.heap[lb]? = some (.cells #[.slice (some ⟨g, 0, none⟩) 0 (m + 1)] 85 (0, 0)) := by
        rw [hW5, Below.heap_alloc _ _ _ (by simp; have := HLB.out; omega), Below.heap_alloc _ _ _ (by simp; have := HLB.out; omega), ← HLB.out]
        exact heap_alloc_new w3 _
      have i5 : Inv w q g lb m (turned t zs) [] W5 := by
        rw [hW5] at k0 ⊢
        exact ⟨k0, ((hown3.alloc _).alloc _).alloc _, ((rk3.alloc _).alloc _).alloc _, ((ro3.alloc _).alloc _).alloc _, ((b3.alloc b3.size _).alloc (by simp; have := b3.size; omega) _).alloc (by simp; have := b3.size; omega) _⟩
      have b5 := i5.2.2.2.2
      have hSlt : ∀ b, b < B → ¬ (b = g ∨ b = lb) := fun b hb e => by omega
      have hit := fun n => behind_far n (lb + 1) (lb + 2) (fun b => b = g ∨ b = lb) (.slice (some ⟨w.heap.size, 0, none⟩) 64 64) A m c vs W5 k1 k2 (by omega) (by omega) rfl ht.one_cell (ValsN.of (h.below (b5.mono hB)) hSlt) (by omega)
      have far : ∀ B', lb < B' → Far B' (Inv w q g lb m (turned t zs)) := fun B' h => Inv.far w q g lb m _ (by omega) (by omega) (by omega) h (by omega)
      have Z5 := Lib.hid z5
      have hwg : w.heap.size < g := by omega
      have hwl : w.heap.size < lb := by omega
      have hgb : g ≠ lb := by omega
      clear hW5 k1 k2 k0 hown3 rk3 ro3 b3 z5 hwq
      gi_wp2_with fail
      refine wpIn_rangeFunc_far rfl (by omega) (gf := 69) (lb := #[.pointer (some ⟨lb + 1, 0, none⟩), .pointer (some ⟨lb + 1 + 1, 0, none⟩)]) rfl trivial (enters_of Tryd.func69 (by kernel_rfl) rfl)
        (hit _) (fun h k => h.trans k) (fun W l o o' hl ho hc _ => Only.put W l o o' ho hc) (Below.refl _ _) (fun _ => rfl)
        (Inv w q g lb m (turned t zs)) (far _ (by have := Z5.out; omega)) i5
        (fun x a' pre W => Inv w q g lb m (turned t zs) pre W ∧ a' = { tmps := #[.agg (arr .u8 zs), .int .u8 t, .slice A m c, .pointer (some ⟨w.heap.size, 0, none⟩), undef, undef, .pointer (some ⟨q, 0, none⟩), u7, .pointer (some ⟨lb, 0, none⟩), x, .int .i64 64, .bool false, u12, u13, u14, u15, u16, u17, u18, u19, .slice A m c, .int .i64 (m : Int), .int .i64 (1 + (m : Int)), .slice (some ⟨g, 0, none⟩) 0 (m + 1), .slice (some ⟨w.heap.size, 0, none⟩) 64 64, .slice A m c, .func (.func 69) #[] #[.pointer (some ⟨lb + 1, 0, none⟩), .pointer (some ⟨lb + 1 + 1, 0, none⟩)], x, undef, undef, undef, undef, undef, undef], defers := [] }) ?ib ?assign ?body ?done
      case ib =>
        rintro x a' pre W W' row ⟨hi, h3⟩ hgr hr
        exact ⟨far (lb + 1) (by omega) pre W W' row hi hgr (fun r e => by have := (hr r e).1; have := Z5.out; omega), h3⟩
      case assign =>
        intro l pre x W K hi hp hsz hK
        gi_wp2_with fail
        exact hK _ _ (KeepsOthers.refl _) (Only.refl _ _) ⟨hi, rfl⟩
      case body =>
        rintro l pre x a' W ⟨⟨i1, i2, i3, i4, ib⟩, rfl⟩ hp hsz
        have hx := List.IsPrefix.length_le hp
        have hpl : pre.length + 1 ≤ m + 1 := by simpa [h.1] using hx
        have hxm : x ∈ (Value.slice (some ⟨w.heap.size, 0, none⟩) 64 64) :: vs := hp.subset (by simp)
        obtain ⟨Ax, nx, cx, rfl⟩ : ∃ Ax nx cx, x = .slice Ax nx cx := by
          rcases List.mem_cons.1 hxm with rfl | hxm
          · exact ⟨_, _, _, rfl⟩
          · exact ht.slice hxm
        have hc := cell_of_one i1
        have hf := free_of_one i1
        have hlw : lb < W.heap.size := (Array.getElem?_eq_some_iff.1 i1).1
        obtain ⟨p, hpp⟩ : ∃ p, pre.length = p := ⟨_, rfl⟩
        rw [hpp] at i1 i2 hc hpl
        have HPP := Lib.hid hpp
        obtain ⟨i0, hi0, hz0, hs0, hb0⟩ := info_parts info_bytes
        have hcx : ∀ (j : Nat) (u : Value), [Value.slice Ax nx cx][j]? = some u → (W.alloc (.cells #[.slice Ax nx cx] 34)).cell? ((⟨W.heap.size, 0, none⟩ : Addr).add j) = some u := fun j u hu => by
          cases j with
          | zero =>
            simp at hu
            subst hu
            rw [show (Addr.mk W.heap.size 0 none).add 0 = ⟨W.heap.size, 0, none⟩ by simp [Addr.add], World.cell?_alloc_at #[.slice Ax nx cx] 34 _ 0 rfl]
            rfl
          | succ j => simp at hu
        have hx1' : ∀ u ∈ [Value.slice Ax nx cx], u.oneCell' = true := fun u hu => by rw [List.mem_singleton.1 hu]; rfl
        have HCX := Lib.hid hcx
        have HX1 := Lib.hid hx1'
        clear hx hxm hp hpp hcx hx1'
        simp only []
        gi_wp2_with (refine wpListIn_append_fits _ rfl _ _ 85 rfl w.heap.size 34 i0 1 Tryd.underlying85 hi0 hs0 g p (m + 1) pre rfl (i2.alloc (.cells #[.slice Ax nx cx] 34)) ⟨W.heap.size, 0, none⟩ 1 1 [.slice Ax nx cx] rfl rfl HCX.out HX1.out (by omega) ?_; intro w6 hown6 hg6; have l6 : w6.heap[lb]? = some (.cells #[.slice (some ⟨g, 0, none⟩) p (m + 1)] 85 (0, 0)) := ((hg6.block lb (by simp; omega) (by intro e; injection e with e; omega)).trans (Below.heap_alloc W _ lb hlw)).trans i1; have f6 := free_of_one l6; have c6 := cell_of_one l6)
        have hgW := i2.2
        obtain ⟨cur, hcur⟩ : ∃ cur, W.heap[g]? = some (.cells cur 34 (0, 0)) := by
          rcases i2.2 with ⟨e, _⟩ | ⟨g', cap, cur, e, _, hgg, _⟩
          · cases e
          · injection e with e1
            injection e1 with e1
            injection e1 with e1
            subst e1
            exact ⟨cur, hgg⟩
        have hgw : g < W.heap.size := (Array.getElem?_eq_some_iff.1 hcur).1
        have ga := World.grownBy_alloc W (.cells #[.slice Ax nx cx] 34) none
        have gs := grown_setCell w6 lb 0 (.slice (some ⟨g, 0, none⟩) (p + 1) (m + 1))
        have hs6 := hg6.size
        rw [World.size_alloc] at hs6
        refine ⟨((KeepsOthers.alloc _ _).trans (KeepsOthers.of_grownBy hg6 (fun j o e ho => ?_))).trans (KeepsOthers.of_grownBy gs (fun j o e ho => ?_)),
          ((Only.of_grown ga (fun r e => by cases e)).trans (Only.of_grown hg6 (fun r e => by cases e; exact .inl rfl))).trans (Only.of_grown gs (fun r e => by cases e; exact .inr rfl)), ?_, ?_, ?_, ?_, ?_⟩
        · cases e
          rw [Below.heap_alloc W _ g hgw, hcur] at ho
          cases ho
          rfl
        · cases e
          rw [l6] at ho
          cases ho
          rfl
        · rw [List.length_append, HPP.out]
          exact one_setCell l6
        · rw [List.length_append, HPP.out]
          exact hown6.kept gs (.inr (fun e => by have e : some g = some lb := e; injection e with e; omega))
        · exact ((i3.alloc _).grown hg6 (fun e => by injection e with e; omega)).grown gs (fun e => by injection e with e; omega)
        · exact ((i4.alloc _).grown hg6 (fun e => by injection e with e; omega)).grown gs (fun e => by injection e with e; omega)
        · exact ((ib.alloc ib.size _).grown hg6 (by have := ib.size; simp; omega) (fun r e => by cases e; omega)).grown gs (by have := ib.size; omega) (fun r e => by cases e; omega)
      case done =>
        intro D W hD ⟨i1, i2, i3, i4, ib⟩ hDl
        have hlen : (Value.slice (some ⟨w.heap.size, 0, none⟩) 64 64 :: vs).length = m + 1 := by rw [List.length_cons, h.1]
        rw [hlen] at i1 i2
        have hc := cell_of_one i1
        have tx := (Texts.one (i3.ints (n := 64) (by rw [turned_length, HZ.out]; omega)) (Nat.le_refl 64) (by simp [maxLen])).cons ((ht.below (ib.mono hB)).more (B' := W.heap.size) (by have := ib.size; omega))
        rw [List.take_of_length_le (by rw [turned_length, HZ.out]; omega)] at tx
        have vx := ownsRow_vals i2 tx.one_cell
        have HF := Lib.hid (show (turned t zs :: xss).flatten = turned t zs ++ xss.flatten from rfl)
        have HL := Lib.hid (show (turned t zs ++ xss.flatten).length ≤ 1099511627776 by rw [List.length_append, turned_length, HZ.out]; omega)
        have HBS := Lib.hid (show Bs (turned t zs ++ xss.flatten) from fun z hz => by
          rcases List.mem_append.1 hz with h1 | h1
          · exact turned_bytes _ _ z h1
          · exact hb z h1)
        have hDq : D ≠ q := by have := Z5.out; have := HQ.out; omega
        clear hlen i1 i2 i3
        gi_wp2_with fail
        refine ⟨trivial, ?_⟩
        refine (callsIn_wide.2 (sum_any _ _ _ _ _ _ _ vx tx (Nat.le_refl _) (by omega) (by rw [HF.out]; exact HL.out) (by rw [HF.out]; exact HBS.out) (hT0.below ib hT0.lt) (hT1.below ib hT1.lt))).mono ?_
        rw [HF.out]
        rintro e W7 ⟨rfl, hb7⟩
        have b7 := ib.trans (hb7.mono ib.size)
        have r7 := i4.below hb7 i4.lt
        have d7 := (hb7.block D (Array.getElem?_eq_some_iff.1 hDl).1).trans hDl
        have hs7 := b7.size
        clear vx tx ib i4 hDl hb7
        gi_wp2_with (refine wpListIn_store_RowTo rfl 22 _ _ rfl q rfl 22 .u8 _ _ rfl r7 32 info_32 (sha_length _) (by simp) (fun z hz => wf_of_byte (sha_bytes _ z hz)) ?_; intro w8 r8 g8 z8; have d8 := (g8.block D (Array.getElem?_eq_some_iff.1 d7).1 (by intro e; injection e with e; omega)).trans d7)
        refine ⟨by simp, .inl ⟨_, _, rfl, run_takeDeferred d8, ?_⟩⟩
        have r9 : Row (w8.putObj D (.deferred none)) q 22 .u8 (Sum.sha (turned t zs ++ xss.flatten)) := ⟨r8.1, (World.putObj_heap_other (fun e => hDq e.symm)).trans r8.2⟩
        refine ⟨.agg (arr .u8 (Sum.sha (turned t zs ++ xss.flatten))), results_Row rfl _ _ q _ _ _ rfl r9 32 5 Tryd.underlying22 info_32 (sha_length _), rfl, ?_⟩
        exact (b7.grown g8 hs7 (fun r e => by have := HQ.out; cases e; omega)).grown (grownBy_putObj' _ D _) (by have := g8.size; omega) (fun r e => by have := Z5.out; cases e; omega)
end Go.Proofs.YtoelgcdjhekafaaDoor.Mac
namespace Go
namespace Proofs.YtoelgcdjhekafaaDoor.Mem

theorem eql_arr {P : Program} (w : World) (t e : TypeId) (n : Nat) (k : IntKind) (zs : List Int) (ht : P.underlying t = some (.array n e)) (he : P.underlying e = some (.int k)) (hs : (P.info? e).map (·.size) = some 1) (hx : zs.length = n) :
    (binOp .eql t (.agg (arr k zs)) (.agg (arr k zs))).run P w = .ok (.bool true) w := by
  obtain ⟨inf, hi, h1⟩ := Option.map_eq_some_iff.1 hs
  have hc : P.cellsOf e = 1 := by simp [Program.cellsOf, hi, h1]
  have key : (Op.equalIn (9998 + 1 + 1) t (.agg (arr k zs)) (.agg (arr k zs))).run P w = .ok true w := by
    rw [run_equalIn_array w (9998 + 1) _ _ ht hi, hc]
    have hl : ∀ i ∈ List.range n, i < n := fun i hi => List.mem_range.1 hi
    generalize List.range n = l at hl ⊢
    induction l with
    | nil => simp [Op.eqItems]
    | cons i l ih =>
      have hi : i < n := hl i (by simp)
      have px : (part e (arr k zs) (i * 1)).run P w = .ok (.int k (zs.getD i 0)) w := by
        have := arr_get k zs (i := i) (by omega)
        simp [part, isAgg, run_underlying he, this]
      have pe : (Op.equalIn (9998 + 1) e (.int k (zs.getD i 0)) (.int k (zs.getD i 0))).run P w = .ok true w := by
        rw [run_equalIn_int w 9998 e k k _ _ he]
        simp
      rw [Op.eqItems]
      simp only [Sem.run_bind, px, pe, Result.andThen_ok, Bool.not_true, Bool.false_eq_true, if_false]
      exact ih fun j hj => hl j (by simp [hj])
  rw [run_eql_struct, show (10000 : Nat) = 9998 + 1 + 1 from rfl, key]
  rfl

end Proofs.YtoelgcdjhekafaaDoor.Mem
end Go
namespace Go.Proofs.YtoelgcdjhekafaaDoor.Mem
open Go.RowKit
set_option linter.unusedVariables false

theorem zeroCells_one (z : Value) (hz : z.cells = #[z]) (n : Nat) : Builtin.zeroCells z.cells n = (List.replicate n z).toArray := by
  rw [hz]
  apply Array.ext
  · simp [Builtin.zeroCells]
  · intro i h1 h2
    simp [Builtin.zeroCells, Nat.mod_one]

theorem run_append_zeros {P : Program} (w : World) (base : Nat) (ts tn ty e : TypeId) (k kn kq : IntKind) (bytes : Nat) (ht : P.underlying ts = some (.slice e)) (htn : P.underlying tn = some (.int kn))
    (hinfo : (P.info? e).map (fun i => (i.zero, i.size, i.bytes)) = some (some (.int k 0), 1, bytes)) (v : Value) (zs : List Int) (hown : Own w base e k v zs)
    (m : Nat) (hlen : zs.length + m ≤ 17592186044416) (hby : bytes ≤ 8) (hbase : base ≤ w.heap.size) :
    ∃ v' w', (Builtin.append_ #[ts, tn] ty #[v, .int kq (m : Int)]).run P w = .ok v' w' ∧ Own w' base e k v' (zs ++ List.replicate m 0) ∧ w.grownBy w' v.ownBlock ∧ (v'.ownBlock = v.ownBlock ∨ v'.ownBlock = some w.heap.size) := by
  obtain ⟨i, hi, hz, hsz, hb⟩ := info_parts hinfo
  have hw0 : (Lit.int k 0).wf = true := by cases k <;> decide
  have hwf : ∀ z ∈ zs ++ List.replicate m 0, (Lit.int k z).wf = true := fun z hz' => by
    rcases List.mem_append.1 hz' with h | h
    · exact hown.1 z h
    · rw [List.eq_of_mem_replicate h]; exact hw0
  have hzc : (Value.int k 0).cells = #[Value.int k 0] := rfl
  have hwrap : IntKind.i64.wrap (m : Int) = (m : Int) := by rw [IntKind.wrap_i64]; omega
  have hw00 : IntKind.i64.wrap (0 : Int) = 0 := by decide
  have hmb : (m : Int) * (bytes : Int) ≤ 281474976710656 := by
    have h2 : m * bytes ≤ 140737488355328 := Nat.le_trans (Nat.mul_le_mul (by omega : m ≤ 17592186044416) hby) (by decide)
    rw [← Int.natCast_mul]
    omega
  have hll : (zs ++ List.replicate m (0 : Int)).length = zs.length + m := by simp
  -- what the growing arm leaves
  have grown : ∀ (old : Nat), old < zs.length + m → ∀ (row : Option Nat),
      (w.drew.alloc (.cells ((zs.map (Value.int k)).toArray ++ Builtin.zeroCells (Value.int k 0).cells m ++ Builtin.zeroCells (Value.int k 0).cells (grownCap w (zs.length + m) old e - (zs.length + m))) e)).ownsRow base e 1
        (.slice (some ⟨w.heap.size, 0, none⟩) (zs.length + m) (grownCap w (zs.length + m) old e)) (zs.length + m) ((zs ++ List.replicate m 0).map (Value.int k)) ∧
      w.grownBy (w.drew.alloc (.cells ((zs.map (Value.int k)).toArray ++ Builtin.zeroCells (Value.int k 0).cells m ++ Builtin.zeroCells (Value.int k 0).cells (grownCap w (zs.length + m) old e - (zs.length + m))) e)) row := by
    intro old ho row
    have hge := grownCap_ge w (zs.length + m) old e
    have hcm : grownCap w (zs.length + m) old e ≤ maxLen := grownCap_le_maxLen w (zs.length + m) old e (by simp only [maxLen]; omega)
    refine ⟨⟨by simp, .inr ⟨w.heap.size, _, _, rfl, hbase, heap_alloc_new w.drew _, hge, hcm, ?_, ?_⟩⟩, ⟨rfl, rfl, rfl, by simp, fun k hk _ => heap_alloc_old w.drew _ hk⟩⟩
    · simp only [Array.size_append, List.size_toArray, size_zeroCells, hzc, List.length_map, List.size_toArray, List.length_cons, List.length_nil]
      omega
    · rw [zeroCells_one _ hzc m]
      simp only [Array.toList_append, List.append_assoc, List.map_append, List.map_replicate]
      rw [← List.append_assoc, show (zs.length + m) * 1 = (zs.map (Value.int k) ++ List.replicate m (Value.int k 0)).length by simp]
      exact List.take_left
  rcases hown.2.2 with ⟨rfl, h0⟩ | ⟨g, cap, cur, rfl, hbg, hg, hnc, hcm, hcs, htake⟩
  · have hx : zs = [] := List.eq_nil_of_length_eq_zero h0
    subst hx
    by_cases hm : m = 0
    · subst hm
      refine ⟨.slice none 0 0, w, ?_, by simpa using Own.nil w base e k, ⟨rfl, rfl, rfl, Nat.le_refl _, fun _ _ _ => rfl⟩, .inl rfl⟩
      simp [Builtin.append_, run_underlying ht, run_underlying htn, sizeOf, typeInfo, hi, asInt, asIntOf, hw00]
    · have hr := Lib.run_append_nil_zeros (P := P) w ts tn ty e i (.int k 0) kq kn ht htn hi hz m (by omega) (by omega) (by omega) (by rw [hb]; exact Nat.le_trans (Nat.mul_le_mul (by simpa using hlen) hby) (by omega))
      have hgr := grown 0 (by simp; omega) (Value.ownBlock (.slice none 0 0))
      simp only [List.length_nil, Nat.zero_add, List.map_nil, List.nil_append] at hgr hlen ⊢
      have ea : ((#[] : Array Value) ++ Builtin.zeroCells (Value.int k 0).cells m) = Builtin.zeroCells (Value.int k 0).cells m := by simp
      simp only [ea] at hgr
      exact ⟨_, _, hr, ⟨by simpa using hwf, by simpa using hgr.1⟩, hgr.2, .inr rfl⟩
  · by_cases hroom : zs.length + m ≤ cap
    · have hcs' : cur.size = cap := by simpa using hcs
      have hst := run_storeCells_at P g zs.length e (List.replicate m (Value.int k 0)) 0 cur w hg (by simp; omega) (fun v hv => by rw [List.eq_of_mem_replicate hv]; rfl)
      simp only [Nat.add_zero, List.length_replicate] at hst
      have hrun : (Builtin.append_ #[ts, tn] ty #[.slice (some ⟨g, 0, none⟩) zs.length cap, .int kq (m : Int)]).run P w =
          .ok (.slice (some ⟨g, 0, none⟩) (zs.length + m) cap) (w.setRow g (cur.toList.take zs.length ++ List.replicate m (Value.int k 0) ++ cur.toList.drop (zs.length + m)).toArray) := by
        by_cases hm : m = 0
        · subst hm
          have e1 : cur.toList.take zs.length ++ List.replicate 0 (Value.int k 0) ++ cur.toList.drop (zs.length + 0) = cur.toList := by simp
          rw [e1]
          simp only [List.replicate_zero] at hst
          simp [Builtin.append_, run_underlying ht, run_underlying htn, sizeOf, typeInfo, hi, asInt, asIntOf, hw00, hnc, Addr.add_lit, storeCells] at hst ⊢
          first | exact hst | simpa using hst
        · have hmi : ¬ ((m : Int) < 0) := by omega
          have hb2 : ¬ (281474976710656 < (m : Int) * (bytes : Int)) := by omega
          have hmz : ¬ m = 0 := hm
          simp [Builtin.append_, run_underlying ht, run_underlying htn, sizeOf, typeInfo, zeroValue, hi, hz, hsz, hb, asInt, asIntOf, hwrap, hmi, hb2, hmz, hroom, zeroCells_one _ hzc, Addr.add_lit, hst]
      refine ⟨_, _, hrun, ⟨hwf, by rw [hll]; simp, .inr ⟨g, cap, _, by rw [hll], hbg, setRow_heap w g cur _ e _ hg, by rw [hll]; exact hroom, hcm, ?_, ?_⟩⟩, ⟨rfl, rfl, rfl, by simp, fun k _ hk => setRow_other w g k _ (fun e => hk (by simp [Value.ownBlock, e]))⟩, .inl rfl⟩
      · simp only [List.size_toArray, List.length_append, List.length_take, List.length_drop, Array.length_toList, List.length_replicate]
        omega
      · have ht' : cur.toList.take zs.length = zs.map (Value.int k) := by simpa using htake
        rw [ht', hll, show (zs.length + m) * 1 = (zs.map (Value.int k) ++ List.replicate m (Value.int k 0)).length by simp, List.map_append, List.map_replicate]
        exact List.take_left
    · have holds := hown.2.cells (g := g) rfl
      have hf := run_firstCells_some (P := P) w.drew i.size zs.length ⟨g, 0, none⟩ zs.length cap (zs.map (Value.int k)) (by simp [hsz]) (by simpa using holds)
      have hr := Lib.run_append_grow_zeros (P := P) w ts tn ty e i (.int k 0) kq kn ht htn hi hz (some ⟨g, 0, none⟩) zs.length cap _ hf m (by omega) (by omega) (by omega) (by omega)
        (by rw [hb]; exact Nat.le_trans (Nat.mul_le_mul (by omega : m ≤ 17592186044416) hby) (by omega)) (growslice_fits (by omega) (by rw [hb]; exact Nat.le_trans (Nat.mul_le_mul hlen hby) (by omega)))
      have hgr := grown cap (by omega) (Value.ownBlock (.slice (some ⟨g, 0, none⟩) zs.length cap))
      exact ⟨_, _, hr, ⟨hwf, by rw [hll]; exact hgr.1⟩, hgr.2, .inr rfl⟩
end Go.Proofs.YtoelgcdjhekafaaDoor.Mem
namespace Go.Proofs.YtoelgcdjhekafaaDoor.Held
open Go.RowKit Go.Shelf Go.Proofs.YtoelgcdjhekafaaDoor.Mem
set_option linter.unusedVariables false

section
variable {P : Program} {ops : Array Oper} {Q : Exit → Act → World → Prop} {md : Region.Mode} {S : World → Prop}
/-- what yields v in every world that meets S is taken first -/
theorem take (i : Nat) (d : Option Tmp) {oi : Oper} {v : Value} {fuel : Nat} {listed : Array Bool} {a : Act} {w : World} (hi : ops[i]? = some oi) (hd : oi.dst = d)
    (hs : Region.noSelect ops = true) (hf : Region.free md ops listed i = true) (hr : (Region.ready md ops listed).contains i = true)
    (hQ : ∀ c a w, Q (.panic c) (a.put d v) w → Q (.panic c) a w) (hw : Region.wanted oi (yielded ops a.tmps) = true) (hy : ∀ w, S w → (execOp a.eval oi).run P w = .ok (.value v) w) (hS : S w)
    (h : wpAnyH P md ops Q S fuel (listed.setIfInBounds i true) (a.put d v) w) : wpAnyH P md ops Q S (fuel + 1) listed a w := by
  subst hd
  exact wpAnyH_take hi hs hf hr hQ (.inl ⟨hw, hy⟩) hS h
/-- what comes up alone is carried out -/
theorem one (i : Nat) {fuel : Nat} {listed : Array Bool} {a : Act} {w : World} (hr : Region.ready md ops listed = [i])
    (h : wpOp P ops Q i (fun a' w' => S w' ∧ wpAnyH P md ops Q S fuel (listed.setIfInBounds i true) a' w') a w) : wpAnyH P md ops Q S (fuel + 1) listed a w := by
  refine wpAnyH_all hr (by simp) fun j hj => ?_
  obtain rfl := List.mem_singleton.1 hj
  exact h
/-- one of two comes up -/
theorem two (i j : Nat) {fuel : Nat} {listed : Array Bool} {a : Act} {w : World} (hr : Region.ready md ops listed = [i, j])
    (h1 : wpOp P ops Q i (fun a' w' => S w' ∧ wpAnyH P md ops Q S fuel (listed.setIfInBounds i true) a' w') a w) (h2 : wpOp P ops Q j (fun a' w' => S w' ∧ wpAnyH P md ops Q S fuel (listed.setIfInBounds j true) a' w') a w) : wpAnyH P md ops Q S (fuel + 1) listed a w := by
  refine wpAnyH_all hr (by simp) fun k hk => ?_
  rcases List.mem_cons.1 hk with rfl | hk
  · exact h1
  · obtain rfl := List.mem_singleton.1 hk
    exact h2
theorem three (i j k : Nat) {fuel : Nat} {listed : Array Bool} {a : Act} {w : World} (hr : Region.ready md ops listed = [i, j, k])
    (h1 : wpOp P ops Q i (fun a' w' => S w' ∧ wpAnyH P md ops Q S fuel (listed.setIfInBounds i true) a' w') a w) (h2 : wpOp P ops Q j (fun a' w' => S w' ∧ wpAnyH P md ops Q S fuel (listed.setIfInBounds j true) a' w') a w)
    (h3 : wpOp P ops Q k (fun a' w' => S w' ∧ wpAnyH P md ops Q S fuel (listed.setIfInBounds k true) a' w') a w) : wpAnyH P md ops Q S (fuel + 1) listed a w := by
  refine wpAnyH_all hr (by simp) fun l hk => ?_
  rcases List.mem_cons.1 hk with rfl | hk
  · exact h1
  · rcases List.mem_cons.1 hk with rfl | hk
    · exact h2
    · obtain rfl := List.mem_singleton.1 hk
      exact h3
theorem op_wp (i : Nat) {o : Oper} {a : Act} {w : World} {K : Act → World → Prop} (hi : ops[i]? = some o) (hw : Region.wanted o (yielded ops a.tmps) = true) (h : Oper.wp P o a w K Q) : wpOp P ops Q i K a w := by
  unfold wpOp
  simp only [hi, hw, if_true]
  exact .inl h
theorem op_call (i : Nat) (d : Option Tmp) {o : Oper} {a : Act} {w : World} {K : Act → World → Prop} (f : FuncId) (vals : Array Value) {xs : Array Operand} {ts : Array TypeId} {R : Ending → World → Prop} (hi : ops[i]? = some o) (hd : o.dst = d) (hw : Region.wanted o (yielded ops a.tmps) = true)
    (ho : o.op = .call { callee := .value (.func f), args := xs, argTypes := ts }) (he : Enters P f) (hv : xs.map a.eval = vals)
    (hc : Calls P f vals w R)
    (h : ∀ e w', R e w' → ∃ v, e = .returned v ∧ K (a.put d v) w') : wpOp P ops Q i K a w := by
  subst hd
  refine op_wp i hi hw ?_
  have hrun : (execOp a.eval o).run P w = .ok (.enter f vals) w := by
    unfold execOp
    simp only [ho, resolve, Act.eval, Deferred.ofValue, Sem.run_bind, Sem.run_pure, Result.andThen_ok, invoke, Array.empty_append, Array.append_empty, hv]
    exact he _ _
  unfold Oper.wp
  rw [hrun, Oper.upon_enter]
  refine hc.mono fun e w' hR => ?_
  obtain ⟨v, rfl, hW⟩ := h e w' hR
  exact hW
/-- a new list of values of one cell each -/
theorem op_build (i : Nat) (d : Option Tmp) {o : Oper} {a : Act} {w : World} {K : Act → World → Prop} (t e : TypeId) (len : Nat) {parts : Array (Nat × Operand)} (z : Value) (bytes : Nat) (vs : List Value) (hi : ops[i]? = some o) (hd : o.dst = d) (hw : Region.wanted o (yielded ops a.tmps) = true)
    (ho : o.op = .buildSlice t len parts) (hu : P.underlying t = some (.slice e)) (hinfo : (P.info? e).map (fun i => (i.zero, i.size, i.bytes)) = some (some z, 1, bytes))
    (hp : (parts.map fun (i, x) => (i, a.eval x)).toList = (vs.zipIdx 0).map fun x => (x.2, x.1)) (h1 : ∀ v ∈ vs, v.cells = #[v]) (h2 : ∀ v ∈ vs, v.oneCell' = true) (hl : vs.length = len) (h0 : 0 < len) (hlen : len ≤ 1000)
    (h : ∀ p w', Vals w' w'.heap.size (some ⟨p, 0, none⟩) len vs → Below w.heap.size w w' → K (a.put d (.slice (some ⟨p, 0, none⟩) len len)) w') : wpOp P ops Q i K a w := by
  subst hd
  subst hl
  refine op_wp i hi hw ?_
  obtain ⟨ie, hie, hz, hsz, _⟩ := info_parts hinfo
  refine Go.wp_buildSlice t e vs.length parts ho vs.toArray ie z hu hie hz (by rw [hsz]; omega) (by rw [hsz]; omega) ?_ (h _ _ ((Vals.new w e vs h2).more (by simp)) ((Below.refl _ w).alloc (Nat.le_refl _) _))
  rw [hp]
  simp only [hsz]
  exact Go.Great.fill_flat vs _ h1 (by simp)
/-- append(s, make([]T, m)...) onto what the call owns -/
theorem op_append_zeros (i : Nat) (d : Option Tmp) {o : Oper} {a : Act} {w : World} {K : Act → World → Prop} {s x : Operand} (ts tn : TypeId) (hi : ops[i]? = some o) (hd : o.dst = d) (hw : Region.wanted o (yielded ops a.tmps) = true)
    (ho : o.op = .call { callee := .builtin .append, args := #[s, x], argTypes := #[ts, tn] }) (base : Nat) (e : TypeId) (k kn kq : IntKind) (bytes : Nat) (ht : P.underlying ts = some (.slice e)) (htn : P.underlying tn = some (.int kn))
    (hinfo : (P.info? e).map (fun i => (i.zero, i.size, i.bytes)) = some (some (.int k 0), 1, bytes)) (v : Value) (zs : List Int) (m : Nat) (hs : a.eval s = v) (hx : a.eval x = .int kq (m : Int)) (hown : Mem.Own w base e k v zs)
    (hlen : zs.length + m ≤ 17592186044416) (hby : bytes ≤ 8) (hbase : base ≤ w.heap.size)
    (h : ∀ v' w', Mem.Own w' base e k v' (zs ++ List.replicate m 0) → w.grownBy w' v.ownBlock → K (a.put d v') w') : wpOp P ops Q i K a w := by
  subst hd
  refine op_wp i hi hw ?_
  obtain ⟨v', w', hrun, h2, h3, _⟩ := run_append_zeros (P := P) w base ts tn o.type e k kn kq bytes ht htn hinfo v zs hown m hlen hby hbase
  exact Lib.wp_append_run w s x ts tn ho v _ hs hx v' w' hrun (h v' w' h2 h3)
theorem op_store_Row (i : Nat) (d : Option Tmp) {o : Oper} {a : Act} {w : World} {K : Act → World → Prop} (ty : TypeId) {x y : Operand} (g : Nat) (t : TypeId) (k : IntKind) (old zs : List Int) (hi : ops[i]? = some o) (hd : o.dst = d) (hw : Region.wanted o (yielded ops a.tmps) = true)
    (ho : o.op = .store ty x y) (hx : a.eval x = .pointer (some ⟨g, 0, none⟩)) (hy : a.eval y = .agg (arr k zs)) (hrow : Row w g t k old) (n : Nat) (hsz : (P.info? ty).map (·.size) = some n) (hn : zs.length = n) (ho' : old.length = n)
    (h : K (a.put d undef) (w.setRow g (arr k zs))) : wpOp P ops Q i K a w := by
  subst hd
  refine op_wp i hi hw ?_
  unfold Oper.wp execOp
  simp only [ho, hx, hy, Instr.storeAt, Instr.sureAddr, Sem.run_bind, Sem.run_pure, Result.andThen_ok, run_storeVar_row w g t ty _ (arr k zs) hrow.2 (by rw [hsz, arr_size, hn]) (by simp [arr, ho', hn]) (arr_one k zs)]
  exact h

variable {ρ : Operand → Value} {o : Oper}
theorem y_move {x : Operand} {v : Value} (ho : o.op = .move x) (hv : ρ x = v) : ∀ w, S w → (execOp ρ o).run P w = .ok (.value v) w := fun w _ => by simp [execOp, ho, hv]
theorem y_assign {x : Operand} {v : Value} (ho : o.op = .assign x) (hv : ρ x = v) : ∀ w, S w → (execOp ρ o).run P w = .ok (.value v) w := fun w _ => by simp [execOp, ho, hv]
theorem y_pick {c x y : Operand} {v : Value} (ho : o.op = .pick c x y) (hc : ρ c = .bool true) (hv : ρ x = v) : ∀ w, S w → (execOp ρ o).run P w = .ok (.value v) w := fun w _ => by simp [execOp, ho, hv, hc, asBool]
theorem y_slice {t : TypeId} {x : Operand} {lo hi mx : Option Operand} {v : Value} (ho : o.op = .slice t x lo hi mx) (hr : ∀ w, (Instr.sliceAt t (ρ x) (lo.map ρ) (hi.map ρ) (mx.map ρ)).run P w = .ok v w) : ∀ w, S w → (execOp ρ o).run P w = .ok (.value v) w :=
  fun w _ => by simp [execOp, ho, hr w]
theorem y_bin {op : BinOp} {t ty : TypeId} {x y : Operand} {u v r : Value} (ho : o.op = .binOp op t x y ty) (hx : ρ x = u) (hy : ρ y = v) (hg : ∀ w, (eqGuard op t x y u v).run P w = .ok () w) (hr : ∀ w, (binOp op t u v).run P w = .ok r w) : ∀ w, S w → (execOp ρ o).run P w = .ok (.value r) w :=
  fun w _ => by simp [execOp, ho, hx, hy, hg w, hr w]
/-- two arrays of the same numbers -/
theorem y_eql {t e ty : TypeId} {x y : Operand} {k : IntKind} {zs : List Int} {n : Nat} (ho : o.op = .binOp .eql t x y ty) (hx : ρ x = .agg (arr k zs)) (hy : ρ y = .agg (arr k zs)) (hq : P.eqGuardType P.depth t = false) (ht : P.underlying t = some (.array n e)) (he : P.underlying e = some (.int k)) (hs : (P.info? e).map (·.size) = some 1) (hn : zs.length = n) :
    ∀ w, S w → (execOp ρ o).run P w = .ok (.value (.bool true)) w := y_bin ho hx hy (fun w => by simp [eqGuard, hq]) (fun w => eql_arr w t e n k zs ht he hs hn)
theorem y_load_Row {ty : TypeId} {x : Operand} {g n : Nat} {t e : TypeId} {k : IntKind} {zs : List Int} (ho : o.op = .load ty x) (hx : ρ x = .pointer (some ⟨g, 0, none⟩)) (hu : P.underlying ty = some (.array n e)) (hi : (P.info? ty).map (·.size) = some n) (hn : zs.length = n)
    (hr : ∀ w, S w → Row w g t k zs) : ∀ w, S w → (execOp ρ o).run P w = .ok (.value (.agg (arr k zs))) w := fun w hw => by
  simp only [execOp, ho, hx, Instr.loadAt, Instr.sureAddr, Sem.run_bind, Sem.run_pure, Result.andThen_ok, run_loadVar_row w g t ty (arr k zs) (0, 0) _ (hr w hw).2 hu rfl (by rw [hi, arr_size, hn])]
end
section
variable {P : Program} {S : World → Prop} {ρ : Operand → Value} {o : Oper}
theorem y_int {op : BinOp} {t ty : TypeId} {x y : Operand} {k : IntKind} {a b r : Int} (ho : o.op = .binOp op t x y ty) (hx : ρ x = .int k a) (hy : ρ y = .int k b) (hr : ∀ w : World, (binOp op t (.int k a) (.int k b)).run P w = .ok (.int k r) w) :
    ∀ w, S w → (execOp ρ o).run P w = .ok (.value (.int k r)) w := y_bin ho hx hy (fun w => by cases op <;> simp [eqGuard]) hr
theorem run_quo (t : TypeId) (k : IntKind) {a b r : Int} (hb : b ≠ 0) (hr : k.wrap (a.tdiv b) = r) (w : World) : (binOp .quo t (.int k a) (.int k b)).run P w = .ok (.int k r) w := by simp [binOp, Op.intDiv, hb, hr]
theorem run_rem (t : TypeId) (k : IntKind) {a b r : Int} (hb : b ≠ 0) (hr : a.tmod b = r) (w : World) : (binOp .rem t (.int k a) (.int k b)).run P w = .ok (.int k r) w := by simp [binOp, Op.intDiv, hb, hr]
theorem run_sub (t : TypeId) (k : IntKind) {a b r : Int} (hr : k.wrap (a - b) = r) (w : World) : (binOp .sub t (.int k a) (.int k b)).run P w = .ok (.int k r) w := by simp [binOp, Op.intArith, hr]
theorem run_add (t : TypeId) (k : IntKind) {a b r : Int} (hr : k.wrap (a + b) = r) (w : World) : (binOp .add t (.int k a) (.int k b)).run P w = .ok (.int k r) w := by simp [binOp, Op.intArith, hr]
theorem y_convert {src dst : TypeId} {x : Operand} {k k' : IntKind} {a r : Int} (ho : o.op = .convert src dst x) (hx : ρ x = .int k a) (hs : (P.underlying src).isSome = true) (hd : P.underlying dst = some (.int k')) (hr : k'.wrap a = r) :
    ∀ w, S w → (execOp ρ o).run P w = .ok (.value (.int k' r)) w := fun w _ => by
  have h := run_convert_int (P := P) w src dst k a hs
  have e : P.intKind dst = k' := by simp [Program.intKind, hd]
  simp [execOp, ho, hx, h, hd, hr, e]
theorem y_len {t : TypeId} {x : Operand} {A : Option Addr} {n c : Nat} (ho : o.op = .call { callee := .builtin .len, args := #[x], argTypes := #[t] }) (hx : ρ x = .slice A n c) (ht : P.underlying t = some (.slice (P.elem t))) :
    ∀ w, S w → (execOp ρ o).run P w = .ok (.value (.int .i64 (n : Int))) w := fun w _ => by
  have h := run_len_slice (P := P) w t o.type A n c ht
  unfold execOp
  simp [ho, resolve, invoke, builtin, hx, h, goInt]
end
/-- an operation over numbers, by what it runs to -/
theorem y_run {P : Program} {S : World → Prop} {ρ : Operand → Value} {o : Oper} {v : Value} (h : ∀ w, (execOp ρ o).run P w = .ok (.value v) w) : ∀ w, S w → (execOp ρ o).run P w = .ok (.value v) w := fun w _ => h w
end Go.Proofs.YtoelgcdjhekafaaDoor.Held
namespace Go.Proofs.YtoelgcdjhekafaaDoor.Mac
open Go.RowKit Go.Shelf Go.Proofs.YtoelgcdjhekafaaDoor.Mem Go.Proofs.YtoelgcdjhekafaaDoor.Help Go.Proofs.YtoelgcdjhekafaaDoor.Sum Go.Proofs.YtoelgcdjhekafaaDoor.Sha
set_option linter.unusedVariables false
attribute [local irreducible] wpList wpListIn

set_option maxRecDepth 100000 in
set_option maxHeartbeats 4000000 in
theorem tag_any (B B' : Nat) (A A' : Option Addr) (n c m c' : Nat) (zs : List Int) (vs : List Value) (xss : List (List Int)) (w : World) (hi : Ints w .u8 B A n zs) (hc : n ≤ c) (hc' : c ≤ maxLen) (hnn : n ≤ 1099511627776) (h : Vals w B' A' m vs) (ht : Texts w B' vs xss) (hB : B ≤ w.heap.size) (hB' : B' ≤ w.heap.size) (hm : m ≤ 1048576) (hn : xss.flatten.length ≤ 549755813888)
    (hT0 : Tab w 3 Sum.H0) (hT1 : Tab w 4 Sum.K) :
    Calls Tryd.prog 50 #[.slice A n c, .slice A' m c'] w fun e w' => e = .returned (.agg (arr .u8 (tag zs xss.flatten))) ∧ Below w.heap.size w w' := by
  have hzb : Bs zs := fun z hz => wf_u8 (hi.2.1 z hz)
  have HB := Lib.hid (blk_length zs)
  have HBB := Lib.hid (blk_bytes hzb)
  go_enter Tryd.func50, Tryd.ntmps50
  go_wp2_with (refine wpList_alloc_Row rfl 22 rfl .u8 32 zero_32 ?_; intro w0 r0 g0 z0)
  have b0 : Below w.heap.size w w0 := (Below.refl _ w).grown g0 (Nat.le_refl _) (by simp)
  have l0 := r0.lt
  refine (fitted_any B A n c zs _ (hi.below (b0.mono hB)) (by omega) hc hc' hnn (hT0.below b0 hT0.lt) (hT1.below b0 hT1.lt)).mono ?_
  rintro e w1 ⟨rfl, hb1⟩
  have b1 := b0.trans (hb1.mono b0.size)
  have r1 := r0.below hb1 l0
  have s1 := hb1.size
  have l1 := r1.lt
  clear hb1 r0 b0 g0 z0
  go_wp2_with (first
    | (refine wpList_alloc_Row (w := w1) rfl 86 rfl .u8 64 zero_64 ?_; intro w2 r2 g2 z2)
    | (refine wpList_store_RowTo (w := w2) rfl 86 _ _ rfl w1.heap.size rfl 86 .u8 _ (blk zs) rfl r2 64 info_64m HB.out (by simp) (fun z hz => wf_of_byte (HBB.out z hz)) ?_; intro w3 r3 g3 z3)
    | (refine wpList_load_Row rfl 86 _ rfl w1.heap.size rfl 86 .u8 _ r3 64 5 Tryd.underlying86 info_64m HB.out ?_))
  have b3 : Below w.heap.size w w3 := (b1.grown g2 b1.size (by simp)).grown g3 (by have := g2.size; have := b1.size; omega) (fun r e => by have := b1.size; cases e; omega)
  have r13 := (r1.grown g2 (by simp)).grown g3 (by intro e; injection e with e; omega)
  clear r1 r2 g2 g3 z2 z3 b1
  refine (keyed_any 54 (blk zs) B' A' m c' vs xss _ HB.out HBB.out (h.below (b3.mono hB')) (ht.below (b3.mono hB')) (by have := b3.size; omega) hm hn ht.bs (hT0.below b3 hT0.lt) (hT1.below b3 hT1.lt)).mono ?_
  rintro e w4 ⟨rfl, hb4⟩
  have b4 := b3.trans (hb4.mono b3.size)
  have q0 := r13.below hb4 r13.lt
  have q5 := r3.below hb4 r3.lt
  have l5 := r3.lt
  obtain ⟨msg, hmsg⟩ : ∃ msg, Sum.sha (turned 54 (blk zs) ++ xss.flatten) = msg := ⟨_, rfl⟩
  have hml : msg.length = 32 := by rw [← hmsg]; exact sha_length _
  have hmb : Bs msg := by rw [← hmsg]; exact sha_bytes _
  rw [hmsg]
  have HTG := Lib.hid (show tag zs xss.flatten = Sum.sha (turned 92 (blk zs) ++ msg) by unfold tag; rw [hmsg])
  have HML := Lib.hid hml
  have hs4 := hb4.size
  clear r13 r3 b3 hb4 hmsg hml
  go_wp2_with (first
    | (refine wpList_alloc_Row (w := w4) rfl 22 rfl .u8 32 zero_32 ?_; intro w5 r5 g5 z5)
    | (refine wpList_store_RowTo (w := w5) rfl 22 _ _ rfl w4.heap.size rfl 22 .u8 _ msg rfl r5 32 info_32 HML.out (by simp) (fun z hz => wf_of_byte (hmb z hz)) ?_; intro w6 r6 g6 z6))
  have b6 : Below w.heap.size w w6 := (b4.grown g5 b4.size (by simp)).grown g6 (by have := g5.size; have := b4.size; omega) (fun r e => by have := b4.size; cases e; omega)
  have p0 := (q0.grown g5 (by simp)).grown g6 (by intro e; injection e with e; omega)
  have p5 := (q5.grown g5 (by simp)).grown g6 (by intro e; injection e with e; omega)
  have l4 := r6.lt
  have l6 := p0.lt
  have l56 := p5.lt
  clear q0 q5 r5 g5 g6 z5 z6 b4 hs4
  refine wp_region_held (S := fun w' => Row w' w1.heap.size 86 .u8 (blk zs)) (by kernel_rfl) ?_
  refine Held.take 0 (some 12) rfl rfl (by kernel_rfl) (by kernel_rfl) (by kernel_rfl) (fun _ _ _ h => h) rfl (Held.y_load_Row (t := 86) (zs := blk zs) rfl rfl Tryd.underlying86 info_64m HB.out (fun w h => h)) p5 ?_
  simp only [Act.put, List.setIfInBounds_toArray, List.set_cons_zero, List.set_cons_succ]
  refine Held.take 1 (some 13) rfl rfl (by kernel_rfl) (by kernel_rfl) (by kernel_rfl) (fun _ _ _ h => h) rfl (Held.y_slice rfl (fun w => run_slice_arr_all (P := Tryd.prog) 22 5 32 w4.heap.size w Tryd.underlying22 (by kernel_rfl) (by omega))) p5 ?_
  simp only [Act.put, List.setIfInBounds_toArray, List.set_cons_zero, List.set_cons_succ]
  change wpAnyH _ _ _ _ _ _ _ _ w6.drew
  have b6d : Below w.heap.size w w6.drew := b6.drew
  have rD : Row w6.drew w4.heap.size 22 .u8 msg := r6
  have pA : Row w6.drew w.heap.size 22 .u8 (List.replicate 32 0) := p0
  have pB : Row w6.drew w1.heap.size 86 .u8 (blk zs) := p5
  refine Held.one 2 (by kernel_rfl) ?_
  refine Held.op_build 2 (some 14) 85 34 1 (.slice none 0 0) 24 [.slice (some ⟨w4.heap.size, 0, none⟩) 32 32] rfl rfl rfl rfl Tryd.underlying85 info_bytes (by simp [Act.eval]) (by simp [Value.cells]) (by simp [Value.oneCell']) rfl (by omega) (by omega) ?_
  intro p wA n1 hbA
  have bA := b6d.trans (hbA.mono b6d.size)
  have rA := rD.below hbA rD.lt
  have pA1 := pA.below hbA pA.lt
  have pB1 := pB.below hbA pB.lt
  have i6 := rA.ints (n := 32) (by rw [HML.out]; omega)
  rw [List.take_of_length_le (by rw [HML.out]; omega)] at i6
  have t1 := Texts.one i6 (Nat.le_refl 32) (by simp [maxLen])
  refine ⟨pB1, ?_⟩
  simp only [Act.put, List.setIfInBounds_toArray, List.set_cons_zero, List.set_cons_succ]
  refine Held.one 3 (by kernel_rfl) ?_
  refine Held.op_call 3 (some 15) 61 #[.agg (arr .u8 (blk zs)), .int .u8 92, .slice (some ⟨p, 0, none⟩) 1 1] rfl rfl rfl rfl (enters_of Tryd.func61 (by kernel_rfl) rfl) (by simp [Act.eval])
    (keyed_any 92 (blk zs) _ _ 1 1 _ [msg] _ HB.out HBB.out n1 t1 (Nat.le_refl _) (by omega) (by simp [HML.out]) (by simpa using hmb) (hT0.below bA hT0.lt) (hT1.below bA hT1.lt)) ?_
  rintro e w7 ⟨rfl, hb7⟩
  have p07 := pA1.below hb7 pA1.lt
  have pB7 := pB1.below hb7 pB1.lt
  refine ⟨_, rfl, pB7, ?_⟩
  simp only [Act.put, List.setIfInBounds_toArray, List.set_cons_zero, List.set_cons_succ]
  have hne : w1.heap.size ≠ w.heap.size := by omega
  refine Held.one 4 (by kernel_rfl) ?_
  refine Held.op_store_Row 4 none 22 w.heap.size 22 .u8 _ (Sum.sha (turned 92 (blk zs) ++ [msg].flatten)) rfl rfl rfl rfl rfl rfl p07 32 info_32 (sha_length _) (by simp) ⟨pB7.setRow_other (fun e => hne e.symm) _, ?_⟩
  simp only [Act.put]
  refine wpAnyH_done (by kernel_rfl) ?_ _
  have r8 := p07.setRow (zs := Sum.sha (turned 92 (blk zs) ++ [msg].flatten)) (fun z hz => wf_of_byte (sha_bytes _ z hz))
  have b7 := bA.trans (hb7.mono bA.size)
  have b8 : Below w.heap.size w (w7.setRow w.heap.size (arr .u8 (Sum.sha (turned 92 (blk zs) ++ [msg].flatten)))) := b7.grown (grown_setRow _ _ _) b7.size (fun r e => by cases e; exact Nat.le_refl _)
  generalize w7.setRow w.heap.size (arr .u8 (Sum.sha (turned 92 (blk zs) ++ [msg].flatten))) = w8 at r8 b8
  have em : [msg].flatten = msg := by simp
  rw [em] at r8 ⊢
  rw [← HTG.out] at r8
  have HTL := Lib.hid (tag_length zs xss.flatten)
  clear em p07 hb7 pA pB pA1 pB1 pB7 t1 n1 i6 bA rA rD
  go_wp2_with fail
  exact bodyPost_ret (results_Row rfl _ _ w.heap.size _ _ _ rfl r8 32 5 Tryd.underlying22 info_32 HTL.out) rfl ⟨rfl, b8⟩
end Go.Proofs.YtoelgcdjhekafaaDoor.Mac
namespace Go.Proofs.YtoelgcdjhekafaaDoor.Mac
open Go.RowKit Go.Proofs.YtoelgcdjhekafaaDoor.Mem Go.Proofs.YtoelgcdjhekafaaDoor.Help Go.Proofs.YtoelgcdjhekafaaDoor.Sum Go.Proofs.YtoelgcdjhekafaaDoor.Sha
set_option linter.unusedVariables false

theorem tag_built (w : World) (A : Option Addr) (n c : Nat) (key : List Int) (m cc : Nat) (vs : List Value) (xss : List (List Int)) (zs : List Int) (hk : Ints w .u8 w.heap.size A n key) (hc : n ≤ c) (hc' : c ≤ maxLen) (hn : n ≤ 1099511627776)
    (hv : vs.length = m) (hm : m ≤ 1000) (ht : Texts w w.heap.size vs xss) (hx : xss.flatten = zs) (hz : zs.length ≤ 549755813888) (hT0 : Tab w 3 Sum.H0) (hT1 : Tab w 4 Sum.K) :
    Calls Tryd.prog 50 #[.slice A n c, .slice (some ⟨w.heap.size, 0, none⟩) m cc] (w.alloc (.cells vs.toArray 34)) fun e w' => e = .returned (.agg (arr .u8 (tag key zs))) ∧ Below w.heap.size w w' := by
  subst hv
  subst hx
  have p1 := Vals.new w 34 vs ht.one_cell
  have hb1 : Below w.heap.size w (w.alloc (.cells vs.toArray 34)) := (Below.refl _ w).alloc (Nat.le_refl _) _
  have t1 := (ht.below hb1).more (B' := w.heap.size + 1) (by omega)
  refine (tag_any _ _ A _ n c _ cc key _ xss _ (hk.below hb1) hc hc' hn p1 t1 (by simp) (by simp) (by omega) hz (hT0.below hb1 hT0.lt) (hT1.below hb1 hT1.lt)).mono ?_
  rintro e w' ⟨rfl, hb⟩
  exact ⟨rfl, hb1.trans (hb.mono (by simp))⟩
theorem tag_one (w : World) (B B' : Nat) (A A' : Option Addr) (n c n' d cc : Nat) (key zs : List Int) (hk : Ints w .u8 B A n key) (hB : B ≤ w.heap.size) (hc : n ≤ c) (hc' : c ≤ maxLen) (hn : n ≤ 1099511627776) (h : Ints w .u8 B' A' n' zs) (hB' : B' ≤ w.heap.size) (hd : n' ≤ d) (hd' : d ≤ maxLen) (hn' : n' ≤ 549755813888)
    (hT0 : Tab w 3 Sum.H0) (hT1 : Tab w 4 Sum.K) :
    Calls Tryd.prog 50 #[.slice A n c, .slice (some ⟨w.heap.size, 0, none⟩) 1 cc] (w.alloc (.cells #[.slice A' n' d] 34)) fun e w' => e = .returned (.agg (arr .u8 (tag key zs))) ∧ Below w.heap.size w w' :=
  tag_built w A n c key 1 cc [.slice A' n' d] [zs] zs (hk.more hB) hc hc' hn rfl (by omega) (Texts.one (h.more hB') hd hd') (by simp) (by rw [h.1]; exact hn') hT0 hT1
theorem tag_two (w : World) (B B' B2 : Nat) (A A' A2 : Option Addr) (n c n' d n2 d2 cc : Nat) (key zs ys : List Int) (hk : Ints w .u8 B A n key) (hB : B ≤ w.heap.size) (hc : n ≤ c) (hc' : c ≤ maxLen) (hn : n ≤ 1099511627776) (h : Ints w .u8 B' A' n' zs) (hB' : B' ≤ w.heap.size) (hd : n' ≤ d) (hd' : d ≤ maxLen)
    (h2 : Ints w .u8 B2 A2 n2 ys) (hB2 : B2 ≤ w.heap.size) (hd2 : n2 ≤ d2) (hd2' : d2 ≤ maxLen) (hn' : n' + n2 ≤ 549755813888)
    (hT0 : Tab w 3 Sum.H0) (hT1 : Tab w 4 Sum.K) :
    Calls Tryd.prog 50 #[.slice A n c, .slice (some ⟨w.heap.size, 0, none⟩) 2 cc] (w.alloc (.cells #[.slice A' n' d, .slice A2 n2 d2] 34)) fun e w' => e = .returned (.agg (arr .u8 (tag key (zs ++ ys)))) ∧ Below w.heap.size w w' :=
  tag_built w A n c key 2 cc [.slice A' n' d, .slice A2 n2 d2] [zs, ys] (zs ++ ys) (hk.more hB) hc hc' hn rfl (by omega) ((Texts.one (h.more hB') hd hd').cons (Texts.one (h2.more hB2) hd2 hd2')) (by simp) (by rw [List.length_append, h.1, h2.1]; exact hn') hT0 hT1
end Go.Proofs.YtoelgcdjhekafaaDoor.Mac
namespace Go.Proofs.YtoelgcdjhekafaaDoor.Sha
open Go.RowKit Go.Proofs.YtoelgcdjhekafaaDoor.Mem
theorem Tab.only {S : Nat → Prop} {w w' : World} {g : Nat} {zs : List Int} (h : Tab w g zs) (ho : Only S w w') (hg : ¬ S g) : Tab w' g zs := by
  obtain ⟨t, fr, h⟩ := h
  exact ⟨t, fr, ho.block g _ hg h rfl⟩
end Go.Proofs.YtoelgcdjhekafaaDoor.Sha
