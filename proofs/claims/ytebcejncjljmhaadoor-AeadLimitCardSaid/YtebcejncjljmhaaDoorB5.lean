/-
  The functions Equal and Choose of package ct, and what the document says of them, each by its contract. Conditions: the slices read as lists of bytes, of at most 2^40 bytes.
  The functions Seal and Open of package aead by their contracts. Conditions: a key of 32 bytes, a nonce of 12; the tables of packages chacha and poly lie where the program's text lays them, ahead of what the call was handed.
  []byte("..") of a text that the program's text says: no program here. No conditions beyond those stated.
  What the laws on package aead share: their first line returns true. Conditions beyond those stated: none.
  What Open tells, of all lengths that may be, in one form: package aead's and the document's own; what the rows' condition on the two tables gives. Conditions: a key of 32 bytes, a nonce of 12, lengths within the limits.
  What the frame of a proof says of an array of numbers that came in by value. No program here. No conditions beyond those stated.
-/
import Derived.Test.YtebcejncjljmhaaDoorB4
import Derived.StillTailTactics
import Derived.Deep.OwnRows
import Derived.Test.YtebcejncjljmhaaDoorB3
import Derived.Test.YtebcejncjljmhaaDoorB1
import Derived.Lib.SlBytesConst
import Derived.Great.BuildSlice
import Derived.Laws.IdiomStrings
import Derived.WideShapes
import Derived.ChangeArms
namespace Go.Proofs.YtebcejncjljmhaaDoor.Ct
open Go.RowKit Go.Proofs.YtebcejncjljmhaaDoor.Bit Go.Proofs.YtebcejncjljmhaaDoor.Mem Go.Proofs.YtebcejncjljmhaaDoor.Help
set_option linter.unusedVariables false

/-- 1 if both lists are one, else 0 -/
def eqI (xs ys : List Int) : Int := if xs = ys then 1 else 0

theorem equal_any (B B' : Nat) (A A' : Option Addr) (n n' c c' : Nat) (zs zs' : List Int) (w : World) (h : Ints w .u8 B A n zs) (h' : Ints w .u8 B' A' n' zs') (hn : n ≤ 17592186044416) (hn' : n' ≤ 17592186044416) :
    Calls Tryd.prog 26 #[.slice A n c, .slice A' n' c'] w fun e w' => e = .returned (.int .u64 (eqI zs zs')) ∧ Still w w' := by
  by_cases hnn : n = n'
  · subst hnn
    have hne : ((n : Int) != (n : Int)) = false := by simp
    have HL := Lib.hid h.1
    have HL' := Lib.hid h'.1
    go_enter Tryd.func26, Tryd.ntmps26
    go_wp2_with fail
    go_loopw [5, 14] (fun d i wr => ∃ (k : Nat) (q : Int), k ≤ n ∧ i = .int .i64 k ∧ d = .int .u8 q ∧ 0 ≤ q ∧ q ≤ 255 ∧ Still w wr ∧ Hid (q = 0 ↔ zs.take k = zs'.take k)) (fun _ i _ => n - (intOf i).toNat)
    case atStart => exact ⟨0, 0, by omega, rfl, rfl, by omega, by omega, Still.refl _, Lib.hid (by simp)⟩
    case round =>
      obtain ⟨k, q, hk, rfl, rfl, hq0, hq1, hst, ht⟩ := hrel
      by_cases hlt : k < n
      · obtain ⟨b, off, rfl, hb, hc⟩ := (hst.ints h).at_ hlt
        obtain ⟨b', off', rfl, hb', hc'⟩ := (hst.ints h').at_ hlt
        have hlt' : (k : Int) < (n : Int) := by omega
        have hk0 : (0 : Int) ≤ (k : Int) := by omega
        have rx := wf_u8 (h.range hlt)
        have ry := wf_u8 (h'.range hlt)
        have G := gather_u8 q (zs.getD k 0) (zs'.getD k 0) ⟨hq0, hq1⟩ rx ry
        have HT := Lib.hid (show (bits .or .u8 q (bits .xor .u8 (zs.getD k 0) (zs'.getD k 0)) = 0 ↔ zs.take (k + 1) = zs'.take (k + 1)) by
          rw [G.2.2]
          constructor
          · rintro ⟨e1, e2⟩
            exact take_step (by have := HL.out; omega) (by have := HL'.out; omega) (ht.out.1 e1) e2
          · intro e
            have e1 : zs.take k = zs'.take k := by
              have := congrArg (List.take k) e
              simpa [List.take_take] using this
            refine ⟨ht.out.2 e1, ?_⟩
            have := congrArg (fun l => l[k]?) e
            simp only [List.getElem?_take, show k < k + 1 by omega, if_true] at this
            simp only [List.getD_eq_getElem?_getD, this])
        have G1 := G.1
        have G2 := G.2.1
        clear G
        generalize zs.getD k 0 = x at hc rx HT G1 G2
        generalize zs'.getD k 0 = y at hc' ry HT G1 G2
        go_wp2_with fail
        go_quiet (fail)
        go_wp2_with fail
        go_roundw
        case rel => exact ⟨k + 1, _, by omega, by go_num, rfl, G1, G2, hst.drewN _, HT⟩
        case measure => simp [intOf]; omega
      · have HF := Lib.hid (show alike q 0 = eqI zs zs' by
          have e1 := ht.out
          rw [List.take_of_length_le (by have := HL.out; omega), List.take_of_length_le (by have := HL'.out; omega)] at e1
          unfold alike eqI
          by_cases e : q = 0
          · rw [if_pos e, if_pos (e1.1 e)]
          · rw [if_neg e, if_neg (fun h => e (e1.2 h))])
        go_wp2_with fail
        refine (same_any _ _ (by omega) (by omega) (by omega) (by omega) _).mono ?_
        rintro e w' ⟨rfl, rfl⟩
        go_wp2_with fail
        go_ret
        exact ⟨ret_int HF.out, hst⟩
  · have hne : ((n : Int) != (n' : Int)) = true := by simp; omega
    have HF := Lib.hid (show eqI zs zs' = 0 by
      unfold eqI; rw [if_neg]; intro e; exact hnn (by rw [← h.1, ← h'.1, e]))
    clear h h' hnn
    go_enter Tryd.func26, Tryd.ntmps26
    go_wp2_with fail
    go_ret
    exact ⟨ret_int HF.out.symm, Still.refl _⟩

/-- which of two lists is chosen -/
def chooseL (c : Int) (xs ys : List Int) : List Int := if xs.length = ys.length then (if c % 2 = 1 then xs else ys) else []
theorem chooseL_wf {c : Int} {xs ys : List Int} (hx : ∀ z ∈ xs, (Lit.int .u8 z).wf = true) (hy : ∀ z ∈ ys, (Lit.int .u8 z).wf = true) : ∀ z ∈ chooseL c xs ys, (Lit.int .u8 z).wf = true := by
  unfold chooseL; split
  · split <;> assumption
  · simp
theorem pick_get (c : Int) (xs ys : List Int) (k : Nat) : pickI c (xs.getD k 0) (ys.getD k 0) = (if c % 2 = 1 then xs else ys).getD k 0 := by unfold pickI; split <;> rfl
theorem still_of {P : Program} {f : FuncId} {args : Array Value} {w : World} {v : Value} (h : Calls P f args w fun e w' => e = .returned v ∧ w = w') : Calls P f args w fun e w' => e = .returned v ∧ w' = w :=
  h.mono fun _ _ ⟨a, b⟩ => ⟨a, b.symm⟩

end Go.Proofs.YtebcejncjljmhaaDoor.Ct
namespace Go.Proofs.YtebcejncjljmhaaDoor.Ae
open Go.RowKit Go.Shelf Go.Proofs.YtebcejncjljmhaaDoor.Mem Go.Proofs.YtebcejncjljmhaaDoor.Help Go.Proofs.YtebcejncjljmhaaDoor.Sum Go.Proofs.YtebcejncjljmhaaDoor.Po Go.Proofs.YtebcejncjljmhaaDoor
set_option linter.unusedVariables false
attribute [local irreducible] wpList wpListIn

/-- both tables lie as the text lays them, in blocks below B -/
def Laid (B : Nat) (w : World) : Prop := Sha.Tab w 1 Cc.sigma ∧ TabK w 0 .u8 keptI ∧ 1 < B ∧ 0 < B
theorem Laid.below {B : Nat} {w w' : World} (h : Laid B w) (hb : Below B w w') : Laid B w' := ⟨h.1.below hb h.2.2.1, h.2.1.below hb h.2.2.2, h.2.2⟩
theorem Laid.more {B B' : Nat} {w : World} (h : Laid B w) (hB : B ≤ B') : Laid B' w := ⟨h.1, h.2.1, Nat.lt_of_lt_of_le h.2.2.1 hB, Nat.lt_of_lt_of_le h.2.2.2 hB⟩
theorem laid_of_two {w : World} (h1 : Sha.Tab w 1 Cc.sigma) (h2 : TabK w 0 .u8 keptI) : Laid w.heap.size w := ⟨h1, h2, h1.lt, h2.lt⟩
theorem equal_same (B B' : Nat) (A A' : Option Addr) (n n' c c' : Nat) (zs zs' : List Int) (w : World) (h : Ints w .u8 B A n zs) (h' : Ints w .u8 B' A' n' zs') (hn : n ≤ 17592186044416) (hn' : n' ≤ 17592186044416) (e : zs = zs') :
    Calls Tryd.prog 26 #[.slice A n c, .slice A' n' c'] w fun e w' => e = .returned (.int .u64 1) ∧ Below w.heap.size w w' :=
  (Ct.equal_any B B' A A' n n' c c' zs zs' w h h' hn hn').mono fun _ _ ⟨h1, h2⟩ => ⟨by rw [h1, Ct.eqI, if_pos e], h2.below _⟩
theorem equal_not (B B' : Nat) (A A' : Option Addr) (n n' c c' : Nat) (zs zs' : List Int) (w : World) (h : Ints w .u8 B A n zs) (h' : Ints w .u8 B' A' n' zs') (hn : n ≤ 17592186044416) (hn' : n' ≤ 17592186044416) (e : zs ≠ zs') :
    Calls Tryd.prog 26 #[.slice A n c, .slice A' n' c'] w fun e w' => e = .returned (.int .u64 0) ∧ Below w.heap.size w w' :=
  (Ct.equal_any B B' A A' n n' c c' zs zs' w h h' hn hn').mono fun _ _ ⟨h1, h2⟩ => ⟨by rw [h1, Ct.eqI, if_neg e], h2.below _⟩

set_option maxRecDepth 100000 in
set_option maxHeartbeats 4000000 in
theorem seal_bad (key nonce : List Int) (B0 B : Nat) (A : Option Addr) (n c : Nat) (xs : List Int) (B2 : Nat) (A2 : Option Addr) (n2 c2 : Nat) (ys : List Int) (w : World) (hL : Laid B0 w) (hB0 : B0 ≤ w.heap.size) (hk : key.length = 32) (hkb : Bs key) (hnl : nonce.length = 12) (hnb : Bs nonce)
    (h : Arg w B A n c xs) (h2 : Arg w B2 A2 n2 c2 ys) (hbad : 65536 < n ∨ 65536 < n2) :
    Calls Tryd.prog 12 #[.agg (arr .u8 key), .agg (arr .u8 nonce), .slice A n c, .slice A2 n2 c2] w fun e w' => e = .returned (.tuple #[.slice none 0 0, .int .i64 5]) ∧ Below w.heap.size w w' := by
  by_cases h1 : 65536 < n
  · have h1' : (65536 : Int) < (n : Int) := by omega
    go_enter Tryd.func12, Tryd.ntmps12
    go_wp2_with (first
      | (refine wpList_box_Row (w := w) rfl 22 _ rfl .u8 key rfl (bs_wf hkb) ?_; intro w1 r1 g1 z1)
      | (refine wpList_box_Row (w := w1) rfl 23 _ rfl .u8 nonce rfl (bs_wf hnb) ?_; intro w2 r2 g2 z2))
    have b2 : Below w.heap.size w w2 := ((Below.refl _ w).grown g1 (Nat.le_refl _) (by simp)).grown g2 g1.size (by simp)
    go_ret2
    exact ⟨rfl, b2⟩
  · have h2n : 65536 < n2 := by omega
    have h1' : ¬ (65536 : Int) < (n : Int) := by omega
    have h2' : (65536 : Int) < (n2 : Int) := by omega
    go_enter Tryd.func12, Tryd.ntmps12
    go_wp2_with (first
      | (refine wpList_box_Row (w := w) rfl 22 _ rfl .u8 key rfl (bs_wf hkb) ?_; intro w1 r1 g1 z1)
      | (refine wpList_box_Row (w := w1) rfl 23 _ rfl .u8 nonce rfl (bs_wf hnb) ?_; intro w2 r2 g2 z2))
    have b2 : Below w.heap.size w w2 := ((Below.refl _ w).grown g1 (Nat.le_refl _) (by simp)).grown g2 g1.size (by simp)
    go_ret2
    exact ⟨rfl, b2⟩

set_option maxRecDepth 100000 in
set_option maxHeartbeats 4000000 in
theorem seal_any (key nonce : List Int) (B0 B : Nat) (A : Option Addr) (n c : Nat) (xs : List Int) (B2 : Nat) (A2 : Option Addr) (n2 c2 : Nat) (ys : List Int) (w : World) (hL : Laid B0 w) (hB0 : B0 ≤ w.heap.size) (hk : key.length = 32) (hkb : Bs key) (hnl : nonce.length = 12) (hnb : Bs nonce)
    (h : Arg w B A n c xs) (hn : n ≤ 65536) (h2 : Arg w B2 A2 n2 c2 ys) (hn2 : n2 ≤ 65536) :
    Calls Tryd.prog 12 #[.agg (arr .u8 key), .agg (arr .u8 nonce), .slice A n c, .slice A2 n2 c2] w fun e w' => ∃ A' m c', e = .returned (.tuple #[.slice A' m c', .int .i64 0]) ∧ Hid ((sealed key nonce xs ys).length = m) ∧ Mem.Own w' w.heap.size 5 .u8 (.slice A' m c') (sealed key nonce xs ys) ∧ Below w.heap.size w w' := by
  have h1' : ¬ (65536 : Int) < (n : Int) := by omega
  have h2' : ¬ (65536 : Int) < (n2 : Int) := by omega
  have HK := Lib.hid hk
  have HN := Lib.hid hnl
  have HY := Lib.hid h2.len
  clear hk hnl
  go_enter Tryd.func12, Tryd.ntmps12
  go_wp2_with (first
    | (refine wpList_box_Row (w := w) rfl 22 _ rfl .u8 key rfl (bs_wf hkb) ?_; intro w1 r1 g1 z1)
    | (refine wpList_box_Row (w := w1) rfl 23 _ rfl .u8 nonce rfl (bs_wf hnb) ?_; intro w2 r2 g2 z2; have r12 := r1.grown g2 (by simp))
    | (refine wpList_load_Row (w := w2) rfl 22 _ rfl w.heap.size rfl 22 .u8 _ r12 32 5 Tryd.underlying22 size_32b HK.out ?_)
    | (refine wpList_load_Row (w := w2) rfl 23 _ rfl w1.heap.size rfl 23 .u8 _ r2 12 5 Tryd.underlying23 size_12b HN.out ?_))
  obtain ⟨gn, hgn⟩ : ∃ g, w1.heap.size = g := ⟨_, rfl⟩
  have hg0 : w.heap.size < gn := by have := r1.lt; omega
  have b2 : Below w.heap.size w w2 := ((Below.refl _ w).grown g1 (Nat.le_refl _) (by simp)).grown g2 g1.size (by simp)
  rw [hgn] at r2 ⊢
  have l2 := r2.lt
  clear hgn r1 g1 g2 z1 z2 w1
  refine (Cha.xor_any key nonce 1 B2 A2 n2 c2 ys w2 (h2.ints.below (b2.mono h2.2.1)) (Nat.le_trans h2.2.1 b2.size) h2.2.2.2.1 (by omega) HK.out hkb HN.out hnb ⟨by omega, by omega⟩ (hL.below (b2.mono hB0)).1).mono ?_
  rintro e w3 ⟨A3, c3, rfl, hc3, hcm3, o3, hb3⟩
  have k3 := r12.below hb3 r12.lt
  have n3 := r2.below hb3 r2.lt
  have b3 := b2.trans (hb3.mono b2.size)
  have s3 := hb3.size
  have HXL := Lib.hid (show (Cc.xors key nonce 1 ys).length = n2 by rw [Cc.xors_length, HY.out])
  have hss : sealed key nonce xs ys = Cc.xors key nonce 1 ys ++ aeTag key nonce xs (Cc.xors key nonce 1 ys) := rfl
  have HSS := Lib.hid hss
  clear hss r12 r2 b2 hb3
  obtain ⟨zs, hzs⟩ : ∃ zs, Cc.xors key nonce 1 ys = zs := ⟨_, rfl⟩
  rw [hzs] at o3 HXL HSS
  clear hzs
  have i3 : Ints w3 .u8 w3.heap.size A3 n2 zs := by
    obtain ⟨_, _, ev, _, _, i⟩ := o3.form
    rw [HXL.out] at ev i
    cases ev
    exact i
  go_wp2_with (first
    | (refine wpList_load_Row (w := w3) rfl 22 _ rfl w.heap.size rfl 22 .u8 _ k3 32 5 Tryd.underlying22 size_32b HK.out ?_)
    | (refine wpList_load_Row (w := w3) rfl 23 _ rfl gn rfl 23 .u8 _ n3 12 5 Tryd.underlying23 size_12b HN.out ?_))
  refine (tagof_any key nonce B A n c xs w3.heap.size A3 n2 c3 zs w3 HK.out hkb HN.out hnb (h.ints.below (b3.mono h.2.1)) (Nat.le_trans h.2.1 b3.size) h.2.2.2.1 h.2.2.2.2 (by omega) i3 (Nat.le_refl _) hc3 (by unfold maxLen; omega) (by omega) (hL.below (b3.mono hB0)).1 (hL.below (b3.mono hB0)).2.1).mono ?_
  rintro e w4 ⟨rfl, hb4⟩
  have o4 := o3.below hb4
  have b4 := b3.trans (hb4.mono b3.size)
  have s4 := Nat.le_trans s3 hb4.size
  have hw2 : w.heap.size ≤ w2.heap.size := by omega
  clear k3 n3 b3 s3 hb4 o3 i3
  have HTL := Lib.hid (aeTag_length key nonce xs zs)
  have HTB := Lib.hid (aeTag_bytes key nonce xs zs)
  obtain ⟨T, hT⟩ : ∃ T, aeTag key nonce xs zs = T := ⟨_, rfl⟩
  rw [hT] at HTL HTB HSS ⊢
  clear hT
  go_wp2_with (first
    | (refine wpList_alloc_Row (w := w4) rfl 41 rfl .u8 16 zero_16b ?_; intro w5 r5 g5 z5; have o5 := o4.kept g5 (by cases (Value.slice A3 n2 c3).ownBlock <;> simp))
    | (refine wpList_store_RowTo (w := w5) rfl 41 _ _ rfl w4.heap.size rfl 41 .u8 _ T rfl r5 16 info_16b HTL.out (by simp) (bs_wf HTB.out) ?_; intro w6 r6 g6 z6; have hsl : (Instr.sliceAt 41 (.pointer (some ⟨w4.heap.size, 0, none⟩)) none none none).run Tryd.prog w6 = .ok (.slice (some ⟨w4.heap.size, 0, none⟩) 16 16) w6 := run_slice_arr_all (P := Tryd.prog) _ 5 16 _ w6 Tryd.underlying41 (by kernel_rfl) (by omega);
        have o6 := o5.kept g6 (.inr (fun e => by have := (o4.2.lt _ e).2; omega));
        have i6 : Ints w6 .u8 w6.heap.size (some ⟨w4.heap.size, 0, none⟩) 16 T := by
          have := r6.ints (n := 16) (by rw [HTL.out]; omega)
          rwa [List.take_of_length_le (by rw [HTL.out]; omega)] at this)
    | (at_builtin; refine wpList_append_ints w6 rfl _ _ 24 rfl w2.heap.size 5 .u8 1 Tryd.underlying24 info_u8 (.slice A3 n2 c3) zs rfl o6 w6.heap.size (some ⟨w4.heap.size, 0, none⟩) 16 16 T rfl i6 (by rw [HXL.out]; omega) (by omega) (by have := g5.size; have := g6.size; omega) ?_; intro v7 w7 o7 g7 t7))
  have s5 := g5.size
  have s6 := g6.size
  have b7 : Below w.heap.size w w7 := (((b4.grown g5 b4.size (by simp)).grown g6 (Nat.le_trans b4.size s5) (fun r e => by have := b4.size; cases e; omega))).grown g7 (Nat.le_trans b4.size (Nat.le_trans s5 s6)) (fun r e => by have := (o6.2.lt r e).1; omega)
  clear r5 g5 g6 g7 o4 o5 o6 r6 i6 hsl t7 z5 z6
  obtain ⟨A7, c7, rfl, _, _, _⟩ := o7.form
  obtain ⟨m, hm⟩ : ∃ m, (zs ++ T).length = m := ⟨_, rfl⟩
  rw [hm] at o7 ⊢
  have HM := Lib.hid hm
  clear hm
  go_wp2_with fail
  go_ret2
  rw [← HSS.out] at o7 HM
  exact ⟨A7, m, c7, rfl, HM, o7.less hw2, b7⟩
set_option maxRecDepth 100000 in
set_option maxHeartbeats 8000000 in
theorem open_bad (key nonce : List Int) (B0 B : Nat) (A : Option Addr) (n c : Nat) (xs : List Int) (B2 : Nat) (A2 : Option Addr) (n2 c2 : Nat) (ys : List Int) (w : World) (hL : Laid B0 w) (hB0 : B0 ≤ w.heap.size) (hk : key.length = 32) (hkb : Bs key) (hnl : nonce.length = 12) (hnb : Bs nonce)
    (h : Arg w B A n c xs) (h2 : Arg w B2 A2 n2 c2 ys) (hbad : 65536 < n ∨ 65552 < n2) :
    Calls Tryd.prog 16 #[.agg (arr .u8 key), .agg (arr .u8 nonce), .slice A n c, .slice A2 n2 c2] w fun e w' => e = .returned (.tuple #[.slice none 0 0, .int .i64 5]) ∧ Below w.heap.size w w' := by
  by_cases h1 : 65536 < n
  · have h1' : (65536 : Int) < (n : Int) := by omega
    go_enter Tryd.func16, Tryd.ntmps16
    go_wp2_with (first
      | (refine wpList_box_Row (w := w) rfl 22 _ rfl .u8 key rfl (bs_wf hkb) ?_; intro w1 r1 g1 z1)
      | (refine wpList_box_Row (w := w1) rfl 23 _ rfl .u8 nonce rfl (bs_wf hnb) ?_; intro w2 r2 g2 z2))
    have b2 : Below w.heap.size w w2 := ((Below.refl _ w).grown g1 (Nat.le_refl _) (by simp)).grown g2 g1.size (by simp)
    go_ret2
    exact ⟨rfl, b2⟩
  · have h1' : ¬ (65536 : Int) < (n : Int) := by omega
    have h2' : (65552 : Int) < (n2 : Int) := by omega
    go_enter Tryd.func16, Tryd.ntmps16
    go_wp2_with (first
      | (refine wpList_box_Row (w := w) rfl 22 _ rfl .u8 key rfl (bs_wf hkb) ?_; intro w1 r1 g1 z1)
      | (refine wpList_box_Row (w := w1) rfl 23 _ rfl .u8 nonce rfl (bs_wf hnb) ?_; intro w2 r2 g2 z2))
    have b2 : Below w.heap.size w w2 := ((Below.refl _ w).grown g1 (Nat.le_refl _) (by simp)).grown g2 g1.size (by simp)
    go_ret2
    exact ⟨rfl, b2⟩
set_option maxRecDepth 100000 in
set_option maxHeartbeats 8000000 in
theorem open_short (key nonce : List Int) (B0 B : Nat) (A : Option Addr) (n c : Nat) (xs : List Int) (B2 : Nat) (A2 : Option Addr) (n2 c2 : Nat) (ys : List Int) (w : World) (hL : Laid B0 w) (hB0 : B0 ≤ w.heap.size) (hk : key.length = 32) (hkb : Bs key) (hnl : nonce.length = 12) (hnb : Bs nonce)
    (h : Arg w B A n c xs) (hn : n ≤ 65536) (h2 : Arg w B2 A2 n2 c2 ys) (hn2 : n2 < 16) :
    Calls Tryd.prog 16 #[.agg (arr .u8 key), .agg (arr .u8 nonce), .slice A n c, .slice A2 n2 c2] w fun e w' => e = .returned (.tuple #[.slice none 0 0, .int .i64 3]) ∧ Below w.heap.size w w' := by
  · have h1' : ¬ (65536 : Int) < (n : Int) := by omega
    have h2' : ¬ (65552 : Int) < (n2 : Int) := by omega
    have h3' : (n2 : Int) < 16 := by omega
    go_enter Tryd.func16, Tryd.ntmps16
    go_wp2_with (first
      | (refine wpList_box_Row (w := w) rfl 22 _ rfl .u8 key rfl (bs_wf hkb) ?_; intro w1 r1 g1 z1)
      | (refine wpList_box_Row (w := w1) rfl 23 _ rfl .u8 nonce rfl (bs_wf hnb) ?_; intro w2 r2 g2 z2))
    have b2 : Below w.heap.size w w2 := ((Below.refl _ w).grown g1 (Nat.le_refl _) (by simp)).grown g2 g1.size (by simp)
    go_ret2
    exact ⟨rfl, b2⟩
set_option maxRecDepth 100000 in
set_option maxHeartbeats 8000000 in
theorem open_any (key nonce : List Int) (B0 B : Nat) (A : Option Addr) (n c : Nat) (xs : List Int) (B2 : Nat) (A2 : Option Addr) (n2 c2 q : Nat) (ys : List Int) (w : World) (hL : Laid B0 w) (hB0 : B0 ≤ w.heap.size) (hk : key.length = 32) (hkb : Bs key) (hnl : nonce.length = 12) (hnb : Bs nonce)
    (h : Arg w B A n c xs) (hn : n ≤ 65536) (h2 : Arg w B2 A2 n2 c2 ys) (hq : n2 = q + 16) (hn2 : q ≤ 65536) :
    Calls Tryd.prog 16 #[.agg (arr .u8 key), .agg (arr .u8 nonce), .slice A n c, .slice A2 n2 c2] w fun e w' => Below w.heap.size w w' ∧
      ((opened key nonce xs ys = none ∧ e = .returned (.tuple #[.slice none 0 0, .int .i64 6])) ∨
        (∃ p A' c', opened key nonce xs ys = some p ∧ p.length = q ∧ e = .returned (.tuple #[.slice A' q c', .int .i64 0]) ∧ Mem.Own w' w.heap.size 5 .u8 (.slice A' q c') p)) := by
  have HOP : Hid (opened key nonce xs ys = if aeTag key nonce xs (ys.take q) = ys.drop q then some (Cc.xors key nonce 1 (ys.take q)) else none) := Lib.hid (by
    rw [opened, show ys.length - 16 = q by rw [h2.len]; omega])
  have h1' : ¬ (65536 : Int) < (n : Int) := by omega
  have h2' : ¬ (65552 : Int) < (n2 : Int) := by omega
  have h3' : ¬ (n2 : Int) < 16 := by omega
  have hsub0 : (n2 : Int) - 16 = (q : Int) := by omega
  have HK := Lib.hid hk
  have HN := Lib.hid hnl
  have HQ := Lib.hid hq
  have hqc : q ≤ c2 := by have := h2.2.2.2.1; omega
  have hqn : q ≤ n2 := by omega
  have hc2 := h2.2.2.2.1
  have hf := h2.2.2.1
  have hB := h.2.1
  have hB2 := h2.2.1
  have hfr := h2.ints.front hqn
  have hslf := fun W : World => run_front (P := Tryd.prog) (n := n2) (cap := c2) (h := q) Tryd.underlying24 size_1b hf hqc W
  obtain ⟨A9, hslb, _, hbk⟩ := run_back (P := Tryd.prog) Tryd.underlying24 size_1b hf hc2 hqn h2.ints
  rw [show n2 - q = 16 by omega] at hslb hbk
  have HYQ := Lib.hid (show (ys.take q).length = q from hfr.1)
  clear hk hnl hq
  go_enter Tryd.func16, Tryd.ntmps16
  go_wp2_with (first
    | (refine wpList_box_Row (w := w) rfl 22 _ rfl .u8 key rfl (bs_wf hkb) ?_; intro w1 r1 g1 z1)
    | (refine wpList_box_Row (w := w1) rfl 23 _ rfl .u8 nonce rfl (bs_wf hnb) ?_; intro w2 r2 g2 z2; have r12 := r1.grown g2 (by simp)))
  obtain ⟨gn, hgn⟩ : ∃ g, w1.heap.size = g := ⟨_, rfl⟩
  have hg0 : w.heap.size < gn := by have := r1.lt; omega
  have b2 : Below w.heap.size w w2 := ((Below.refl _ w).grown g1 (Nat.le_refl _) (by simp)).grown g2 g1.size (by simp)
  rw [hgn] at r2 ⊢
  have l2 := r2.lt
  have l1 := r12.lt
  clear hgn r1 g1 g2 z1 z2 w1
  refine wp_region_held (S := fun W => Below w2.heap.size w2 W) (by kernel_rfl) ?_
  change wpAnyH _ _ _ _ _ _ _ _ w2.drew
  have c0 := (Below.refl w2.heap.size w2).drew
  have d0 := b2.drew
  refine Held.take (v := .agg (arr .u8 key)) 0 (some 26) rfl rfl (by kernel_rfl) (by kernel_rfl) (by kernel_rfl) (fun _ _ _ h => h) rfl (Held.y_load_Row (zs := key) rfl rfl Tryd.underlying22 size_32b HK.out (fun W hW => r12.below hW r12.lt)) c0 ?_
  simp only [Act.put, List.setIfInBounds_toArray, List.set_cons_zero, List.set_cons_succ]
  refine Held.take (v := .agg (arr .u8 nonce)) 1 (some 27) rfl rfl (by kernel_rfl) (by kernel_rfl) (by kernel_rfl) (fun _ _ _ h => h) rfl (Held.y_load_Row (zs := nonce) rfl rfl Tryd.underlying23 size_12b HN.out (fun W hW => r2.below hW r2.lt)) c0 ?_
  simp only [Act.put, List.setIfInBounds_toArray, List.set_cons_zero, List.set_cons_succ]
  refine Held.take (v := .slice A n c) 2 (some 28) rfl rfl (by kernel_rfl) (by kernel_rfl) (by kernel_rfl) (fun _ _ _ h => h) rfl (Held.y_move rfl rfl) c0 ?_
  simp only [Act.put, List.setIfInBounds_toArray, List.set_cons_zero, List.set_cons_succ]
  refine Held.take (v := .slice A2 n2 c2) 3 (some 29) rfl rfl (by kernel_rfl) (by kernel_rfl) (by kernel_rfl) (fun _ _ _ h => h) rfl (Held.y_move rfl rfl) c0 ?_
  simp only [Act.put, List.setIfInBounds_toArray, List.set_cons_zero, List.set_cons_succ]
  refine Held.take (v := .int .i64 (q : Int)) 4 (some 30) rfl rfl (by kernel_rfl) (by kernel_rfl) (by kernel_rfl) (fun _ _ _ h => h) rfl (Held.y_move rfl rfl) c0 ?_
  simp only [Act.put, List.setIfInBounds_toArray, List.set_cons_zero, List.set_cons_succ]
  refine Held.take (v := .slice A2 q c2) 5 (some 31) rfl rfl (by kernel_rfl) (by kernel_rfl) (by kernel_rfl) (fun _ _ _ h => h) rfl (Held.y_slice rfl hslf) c0 ?_
  simp only [Act.put, List.setIfInBounds_toArray, List.set_cons_zero, List.set_cons_succ]
  have HTL := Lib.hid (aeTag_length key nonce xs (ys.take q))
  have HTB := Lib.hid (aeTag_bytes key nonce xs (ys.take q))
  refine Held.two 6 7 (by kernel_rfl) ?_ ?_
  · refine Held.op_call 6 (some 32) 22 #[.agg (arr .u8 key), .agg (arr .u8 nonce), .slice A n c, .slice A2 q c2] rfl rfl rfl rfl (enters_of Tryd.func22 (by kernel_rfl) rfl) (by simp [Act.eval]) (tagof_any key nonce B A n c xs B2 A2 q c2 (ys.take q) w2.drew HK.out hkb HN.out hnb (h.ints.below (d0.mono hB)) (Nat.le_trans hB d0.size) h.2.2.2.1 h.2.2.2.2 (by omega) (hfr.below (d0.mono hB2)) (Nat.le_trans hB2 d0.size) hqc h2.2.2.2.2 (by omega) (hL.below (d0.mono hB0)).1 (hL.below (d0.mono hB0)).2.1) ?_
    rintro e wA ⟨rfl, hbwA⟩
    have cA := c0.trans (hbwA.mono c0.size)
    have dA := d0.trans (hbwA.mono d0.size)
    refine ⟨_, rfl, cA, ?_⟩
    simp only [Act.put, List.setIfInBounds_toArray, List.set_cons_zero, List.set_cons_succ]
    refine Held.one 7 (by kernel_rfl) ?_
    refine Held.op_alloc_Row 7 (some 11) 41 .u8 16 rfl rfl rfl rfl zero_16b ?_
    intro gt wB ra hbwB hgt
    have cB := cA.trans (hbwB.mono cA.size)
    have dB := dA.trans (hbwB.mono dA.size)
    have hgz : w2.heap.size ≤ gt := Nat.le_trans cA.size hgt.out
    refine ⟨cB, ?_⟩
    simp only [Act.put, List.setIfInBounds_toArray, List.set_cons_zero, List.set_cons_succ]
    refine Held.one 8 (by kernel_rfl) ?_
    refine Held.op_store_RowL 8 none 41 gt 41 .u8 _ (aeTag key nonce xs (ys.take q)) rfl rfl rfl rfl rfl rfl ra 16 info_16b HTL.out (by simp) (bs_wf HTB.out) ?_
    intro wz rz gz
    have cz := cB.grown gz cB.size (fun r e => by cases e; exact hgz)
    have dz := dB.grown gz dB.size (fun r e => by cases e; exact Nat.le_trans b2.size hgz)
    clear cA dA cB dB gz ra
    refine ⟨cz, ?_⟩
    simp only [Act.put]
    refine wpAnyH_done (by kernel_rfl) ?_ _
    have kz := r12.below cz r12.lt
    have nz := r2.below cz r2.lt
    have fz := hfr.below (dz.mono hB2)
    have bz := hbk.below (dz.mono hB2)
    have hz := Nat.le_trans b2.size cz.size
    clear cz hgz hgt
    obtain ⟨T, hT⟩ : ∃ T, aeTag key nonce xs (ys.take q) = T := ⟨_, rfl⟩
    rw [hT] at HTL HTB HOP rz
    clear hT
    have iz : Ints wz .u8 wz.heap.size (some ⟨gt, 0, none⟩) 16 T := by
      have := rz.ints (n := 16) (by rw [HTL.out]; omega)
      rwa [List.take_of_length_le (by rw [HTL.out]; omega)] at this
    have hsT : ∀ W, (Instr.sliceAt 41 (.pointer (some ⟨gt, 0, none⟩)) none none none).run Tryd.prog W = .ok (.slice (some ⟨gt, 0, none⟩) 16 16) W := fun W => run_slice_arr_all (P := Tryd.prog) _ 5 16 _ W Tryd.underlying41 (by kernel_rfl) (by omega)
    go_wp2_with fail
    refine wp_region_held (S := fun W => Below wz.heap.size wz W) (by kernel_rfl) ?_
    change wpAnyH _ _ _ _ _ _ _ _ wz.drew
    have c1 := (Below.refl wz.heap.size wz).drew
    refine Held.take (v := .slice (some ⟨gt, 0, none⟩) 16 16) 0 (some 33) rfl rfl (by kernel_rfl) (by kernel_rfl) (by kernel_rfl) (fun _ _ _ h => h) rfl (Held.y_slice rfl hsT) c1 ?_
    simp only [Act.put, List.setIfInBounds_toArray, List.set_cons_zero, List.set_cons_succ]
    refine Held.take (v := .slice A2 n2 c2) 1 (some 34) rfl rfl (by kernel_rfl) (by kernel_rfl) (by kernel_rfl) (fun _ _ _ h => h) rfl (Held.y_move rfl rfl) c1 ?_
    simp only [Act.put, List.setIfInBounds_toArray, List.set_cons_zero, List.set_cons_succ]
    refine Held.take (v := .int .i64 (q : Int)) 2 (some 35) rfl rfl (by kernel_rfl) (by kernel_rfl) (by kernel_rfl) (fun _ _ _ h => h) rfl (Held.y_move rfl rfl) c1 ?_
    simp only [Act.put, List.setIfInBounds_toArray, List.set_cons_zero, List.set_cons_succ]
    refine Held.take (v := .slice A9 16 (c2 - q)) 3 (some 36) rfl rfl (by kernel_rfl) (by kernel_rfl) (by kernel_rfl) (fun _ _ _ h => h) rfl (Held.y_slice rfl hslb) c1 ?_
    simp only [Act.put, List.setIfInBounds_toArray, List.set_cons_zero, List.set_cons_succ]
    refine Held.one 4 (by kernel_rfl) ?_
    by_cases heq : T = ys.drop q
    · refine Held.op_call 4 (some 37) 26 #[.slice (some ⟨gt, 0, none⟩) 16 16, .slice A9 16 (c2 - q)] rfl rfl rfl rfl (enters_of Tryd.func26 (by kernel_rfl) rfl) (by simp [Act.eval]) (equal_same wz.heap.size B2 (some ⟨gt, 0, none⟩) A9 16 16 16 (c2 - q) T (ys.drop q) wz.drew (iz.below c1) (bz.below (c1.mono (Nat.le_trans hB2 dz.size))) (by omega) (by omega) heq) ?_
      rintro e we ⟨rfl, hbe⟩
      have ce := c1.trans (hbe.mono c1.size)
      have de := dz.drew.trans (hbe.mono dz.drew.size)
      refine ⟨_, rfl, ce, ?_⟩
      simp only [Act.put, List.setIfInBounds_toArray, List.set_cons_zero, List.set_cons_succ]
      refine Held.take (v := .bool false) 5 (some 38) rfl rfl (by kernel_rfl) (by kernel_rfl) (by kernel_rfl) (fun _ _ _ h => h) rfl (Held.y_eqn rfl rfl rfl (by omega)) ce ?_
      simp only [Act.put, List.setIfInBounds_toArray, List.set_cons_zero, List.set_cons_succ]
      refine wpAnyH_done (by kernel_rfl) ?_ _
      have ho := HOP.out
      rw [if_pos heq] at ho
      have HO := Lib.hid ho
      clear ho heq
      go_wp2_with fail
      refine wp_region_held (S := fun W => Below wz.heap.size wz W) (by kernel_rfl) ?_
      change wpAnyH _ _ _ _ _ _ _ _ we.drew
      have y2 := ce.drew
      have d2 := de.drew
      refine Held.take (v := .agg (arr .u8 key)) 0 (some 39) rfl rfl (by kernel_rfl) (by kernel_rfl) (by kernel_rfl) (fun _ _ _ h => h) rfl (Held.y_load_Row (zs := key) rfl rfl Tryd.underlying22 size_32b HK.out (fun W hW => kz.below hW kz.lt)) y2 ?_
      simp only [Act.put, List.setIfInBounds_toArray, List.set_cons_zero, List.set_cons_succ]
      refine Held.take (v := .agg (arr .u8 nonce)) 1 (some 40) rfl rfl (by kernel_rfl) (by kernel_rfl) (by kernel_rfl) (fun _ _ _ h => h) rfl (Held.y_load_Row (zs := nonce) rfl rfl Tryd.underlying23 size_12b HN.out (fun W hW => nz.below hW nz.lt)) y2 ?_
      simp only [Act.put, List.setIfInBounds_toArray, List.set_cons_zero, List.set_cons_succ]
      refine Held.take (v := .slice A2 n2 c2) 2 (some 41) rfl rfl (by kernel_rfl) (by kernel_rfl) (by kernel_rfl) (fun _ _ _ h => h) rfl (Held.y_move rfl rfl) y2 ?_
      simp only [Act.put, List.setIfInBounds_toArray, List.set_cons_zero, List.set_cons_succ]
      refine Held.take (v := .int .i64 (q : Int)) 3 (some 42) rfl rfl (by kernel_rfl) (by kernel_rfl) (by kernel_rfl) (fun _ _ _ h => h) rfl (Held.y_move rfl rfl) y2 ?_
      simp only [Act.put, List.setIfInBounds_toArray, List.set_cons_zero, List.set_cons_succ]
      refine Held.take (v := .slice A2 q c2) 4 (some 43) rfl rfl (by kernel_rfl) (by kernel_rfl) (by kernel_rfl) (fun _ _ _ h => h) rfl (Held.y_slice rfl hslf) y2 ?_
      simp only [Act.put, List.setIfInBounds_toArray, List.set_cons_zero, List.set_cons_succ]
      refine Held.one 5 (by kernel_rfl) ?_
      refine Held.op_call 5 (some 44) 21 #[.agg (arr .u8 key), .agg (arr .u8 nonce), .int .u32 1, .slice A2 q c2] rfl rfl rfl rfl (enters_of Tryd.func21 (by kernel_rfl) rfl) (by simp [Act.eval]) (Cha.xor_any key nonce 1 B2 A2 q c2 (ys.take q) we.drew (hfr.below (d2.mono hB2)) (Nat.le_trans hB2 d2.size) hqc (by omega) HK.out hkb HN.out hnb ⟨by omega, by omega⟩ (hL.below (d2.mono hB0)).1) ?_
      rintro e wy ⟨Ay, cy, rfl, hcy, hcmy, oy, hby⟩
      have c3 := y2.trans (hby.mono y2.size)
      have d3 := d2.trans (hby.mono d2.size)
      refine ⟨_, rfl, c3, ?_⟩
      simp only [Act.put, List.setIfInBounds_toArray, List.set_cons_zero, List.set_cons_succ]
      refine Held.take (v := .slice Ay q cy) 6 (some 8) rfl rfl (by kernel_rfl) (by kernel_rfl) (by kernel_rfl) (fun _ _ _ h => h) rfl (Held.y_assign rfl rfl) c3 ?_
      simp only [Act.put, List.setIfInBounds_toArray, List.set_cons_zero, List.set_cons_succ]
      refine Held.take (v := .int .i64 0) 7 (some 9) rfl rfl (by kernel_rfl) (by kernel_rfl) (by kernel_rfl) (fun _ _ _ h => h) rfl (Held.y_assign rfl rfl) c3 ?_
      simp only [Act.put, List.setIfInBounds_toArray, List.set_cons_zero, List.set_cons_succ]
      refine wpAnyH_done (by kernel_rfl) ?_ _
      go_wp2_with fail
      go_ret2
      exact ⟨d3, .inr ⟨_, Ay, cy, HO.out, by rw [Cc.xors_length, HYQ.out], rfl, oy.less d2.size⟩⟩
    · refine Held.op_call 4 (some 37) 26 #[.slice (some ⟨gt, 0, none⟩) 16 16, .slice A9 16 (c2 - q)] rfl rfl rfl rfl (enters_of Tryd.func26 (by kernel_rfl) rfl) (by simp [Act.eval]) (equal_not wz.heap.size B2 (some ⟨gt, 0, none⟩) A9 16 16 16 (c2 - q) T (ys.drop q) wz.drew (iz.below c1) (bz.below (c1.mono (Nat.le_trans hB2 dz.size))) (by omega) (by omega) heq) ?_
      rintro e we ⟨rfl, hbe⟩
      have ce := c1.trans (hbe.mono c1.size)
      have de := dz.drew.trans (hbe.mono dz.drew.size)
      refine ⟨_, rfl, ce, ?_⟩
      simp only [Act.put, List.setIfInBounds_toArray, List.set_cons_zero, List.set_cons_succ]
      refine Held.take (v := .bool true) 5 (some 38) rfl rfl (by kernel_rfl) (by kernel_rfl) (by kernel_rfl) (fun _ _ _ h => h) rfl (Held.y_eqi rfl rfl rfl) ce ?_
      simp only [Act.put, List.setIfInBounds_toArray, List.set_cons_zero, List.set_cons_succ]
      refine wpAnyH_done (by kernel_rfl) ?_ _
      have ho := HOP.out
      rw [if_neg heq] at ho
      have HO := Lib.hid ho
      clear ho heq
      go_wp2_with fail
      go_ret2
      exact ⟨de, .inl ⟨HO.out, rfl⟩⟩
  · refine Held.op_alloc_Row 7 (some 11) 41 .u8 16 rfl rfl rfl rfl zero_16b ?_
    intro gt wA ra hbwA hgt
    have cA := c0.trans (hbwA.mono c0.size)
    have dA := d0.trans (hbwA.mono d0.size)
    have hgz : w2.heap.size ≤ gt := Nat.le_trans c0.size hgt.out
    refine ⟨cA, ?_⟩
    simp only [Act.put, List.setIfInBounds_toArray, List.set_cons_zero, List.set_cons_succ]
    refine Held.one 6 (by kernel_rfl) ?_
    refine Held.op_call 6 (some 32) 22 #[.agg (arr .u8 key), .agg (arr .u8 nonce), .slice A n c, .slice A2 q c2] rfl rfl rfl rfl (enters_of Tryd.func22 (by kernel_rfl) rfl) (by simp [Act.eval]) (tagof_any key nonce B A n c xs B2 A2 q c2 (ys.take q) wA HK.out hkb HN.out hnb (h.ints.below (dA.mono hB)) (Nat.le_trans hB dA.size) h.2.2.2.1 h.2.2.2.2 (by omega) (hfr.below (dA.mono hB2)) (Nat.le_trans hB2 dA.size) hqc h2.2.2.2.2 (by omega) (hL.below (dA.mono hB0)).1 (hL.below (dA.mono hB0)).2.1) ?_
    rintro e wB ⟨rfl, hbwB⟩
    have cB := cA.trans (hbwB.mono cA.size)
    have dB := dA.trans (hbwB.mono dA.size)
    have ra := ra.below hbwB ra.lt
    refine ⟨_, rfl, cB, ?_⟩
    simp only [Act.put, List.setIfInBounds_toArray, List.set_cons_zero, List.set_cons_succ]
    refine Held.one 8 (by kernel_rfl) ?_
    refine Held.op_store_RowL 8 none 41 gt 41 .u8 _ (aeTag key nonce xs (ys.take q)) rfl rfl rfl rfl rfl rfl ra 16 info_16b HTL.out (by simp) (bs_wf HTB.out) ?_
    intro wz rz gz
    have cz := cB.grown gz cB.size (fun r e => by cases e; exact hgz)
    have dz := dB.grown gz dB.size (fun r e => by cases e; exact Nat.le_trans b2.size hgz)
    clear cA dA cB dB gz ra
    refine ⟨cz, ?_⟩
    simp only [Act.put]
    refine wpAnyH_done (by kernel_rfl) ?_ _
    have kz := r12.below cz r12.lt
    have nz := r2.below cz r2.lt
    have fz := hfr.below (dz.mono hB2)
    have bz := hbk.below (dz.mono hB2)
    have hz := Nat.le_trans b2.size cz.size
    clear cz hgz hgt
    obtain ⟨T, hT⟩ : ∃ T, aeTag key nonce xs (ys.take q) = T := ⟨_, rfl⟩
    rw [hT] at HTL HTB HOP rz
    clear hT
    have iz : Ints wz .u8 wz.heap.size (some ⟨gt, 0, none⟩) 16 T := by
      have := rz.ints (n := 16) (by rw [HTL.out]; omega)
      rwa [List.take_of_length_le (by rw [HTL.out]; omega)] at this
    have hsT : ∀ W, (Instr.sliceAt 41 (.pointer (some ⟨gt, 0, none⟩)) none none none).run Tryd.prog W = .ok (.slice (some ⟨gt, 0, none⟩) 16 16) W := fun W => run_slice_arr_all (P := Tryd.prog) _ 5 16 _ W Tryd.underlying41 (by kernel_rfl) (by omega)
    go_wp2_with fail
    refine wp_region_held (S := fun W => Below wz.heap.size wz W) (by kernel_rfl) ?_
    change wpAnyH _ _ _ _ _ _ _ _ wz.drew
    have c1 := (Below.refl wz.heap.size wz).drew
    refine Held.take (v := .slice (some ⟨gt, 0, none⟩) 16 16) 0 (some 33) rfl rfl (by kernel_rfl) (by kernel_rfl) (by kernel_rfl) (fun _ _ _ h => h) rfl (Held.y_slice rfl hsT) c1 ?_
    simp only [Act.put, List.setIfInBounds_toArray, List.set_cons_zero, List.set_cons_succ]
    refine Held.take (v := .slice A2 n2 c2) 1 (some 34) rfl rfl (by kernel_rfl) (by kernel_rfl) (by kernel_rfl) (fun _ _ _ h => h) rfl (Held.y_move rfl rfl) c1 ?_
    simp only [Act.put, List.setIfInBounds_toArray, List.set_cons_zero, List.set_cons_succ]
    refine Held.take (v := .int .i64 (q : Int)) 2 (some 35) rfl rfl (by kernel_rfl) (by kernel_rfl) (by kernel_rfl) (fun _ _ _ h => h) rfl (Held.y_move rfl rfl) c1 ?_
    simp only [Act.put, List.setIfInBounds_toArray, List.set_cons_zero, List.set_cons_succ]
    refine Held.take (v := .slice A9 16 (c2 - q)) 3 (some 36) rfl rfl (by kernel_rfl) (by kernel_rfl) (by kernel_rfl) (fun _ _ _ h => h) rfl (Held.y_slice rfl hslb) c1 ?_
    simp only [Act.put, List.setIfInBounds_toArray, List.set_cons_zero, List.set_cons_succ]
    refine Held.one 4 (by kernel_rfl) ?_
    by_cases heq : T = ys.drop q
    · refine Held.op_call 4 (some 37) 26 #[.slice (some ⟨gt, 0, none⟩) 16 16, .slice A9 16 (c2 - q)] rfl rfl rfl rfl (enters_of Tryd.func26 (by kernel_rfl) rfl) (by simp [Act.eval]) (equal_same wz.heap.size B2 (some ⟨gt, 0, none⟩) A9 16 16 16 (c2 - q) T (ys.drop q) wz.drew (iz.below c1) (bz.below (c1.mono (Nat.le_trans hB2 dz.size))) (by omega) (by omega) heq) ?_
      rintro e we ⟨rfl, hbe⟩
      have ce := c1.trans (hbe.mono c1.size)
      have de := dz.drew.trans (hbe.mono dz.drew.size)
      refine ⟨_, rfl, ce, ?_⟩
      simp only [Act.put, List.setIfInBounds_toArray, List.set_cons_zero, List.set_cons_succ]
      refine Held.take (v := .bool false) 5 (some 38) rfl rfl (by kernel_rfl) (by kernel_rfl) (by kernel_rfl) (fun _ _ _ h => h) rfl (Held.y_eqn rfl rfl rfl (by omega)) ce ?_
      simp only [Act.put, List.setIfInBounds_toArray, List.set_cons_zero, List.set_cons_succ]
      refine wpAnyH_done (by kernel_rfl) ?_ _
      have ho := HOP.out
      rw [if_pos heq] at ho
      have HO := Lib.hid ho
      clear ho heq
      go_wp2_with fail
      refine wp_region_held (S := fun W => Below wz.heap.size wz W) (by kernel_rfl) ?_
      change wpAnyH _ _ _ _ _ _ _ _ we.drew
      have y2 := ce.drew
      have d2 := de.drew
      refine Held.take (v := .agg (arr .u8 key)) 0 (some 39) rfl rfl (by kernel_rfl) (by kernel_rfl) (by kernel_rfl) (fun _ _ _ h => h) rfl (Held.y_load_Row (zs := key) rfl rfl Tryd.underlying22 size_32b HK.out (fun W hW => kz.below hW kz.lt)) y2 ?_
      simp only [Act.put, List.setIfInBounds_toArray, List.set_cons_zero, List.set_cons_succ]
      refine Held.take (v := .agg (arr .u8 nonce)) 1 (some 40) rfl rfl (by kernel_rfl) (by kernel_rfl) (by kernel_rfl) (fun _ _ _ h => h) rfl (Held.y_load_Row (zs := nonce) rfl rfl Tryd.underlying23 size_12b HN.out (fun W hW => nz.below hW nz.lt)) y2 ?_
      simp only [Act.put, List.setIfInBounds_toArray, List.set_cons_zero, List.set_cons_succ]
      refine Held.take (v := .slice A2 n2 c2) 2 (some 41) rfl rfl (by kernel_rfl) (by kernel_rfl) (by kernel_rfl) (fun _ _ _ h => h) rfl (Held.y_move rfl rfl) y2 ?_
      simp only [Act.put, List.setIfInBounds_toArray, List.set_cons_zero, List.set_cons_succ]
      refine Held.take (v := .int .i64 (q : Int)) 3 (some 42) rfl rfl (by kernel_rfl) (by kernel_rfl) (by kernel_rfl) (fun _ _ _ h => h) rfl (Held.y_move rfl rfl) y2 ?_
      simp only [Act.put, List.setIfInBounds_toArray, List.set_cons_zero, List.set_cons_succ]
      refine Held.take (v := .slice A2 q c2) 4 (some 43) rfl rfl (by kernel_rfl) (by kernel_rfl) (by kernel_rfl) (fun _ _ _ h => h) rfl (Held.y_slice rfl hslf) y2 ?_
      simp only [Act.put, List.setIfInBounds_toArray, List.set_cons_zero, List.set_cons_succ]
      refine Held.one 5 (by kernel_rfl) ?_
      refine Held.op_call 5 (some 44) 21 #[.agg (arr .u8 key), .agg (arr .u8 nonce), .int .u32 1, .slice A2 q c2] rfl rfl rfl rfl (enters_of Tryd.func21 (by kernel_rfl) rfl) (by simp [Act.eval]) (Cha.xor_any key nonce 1 B2 A2 q c2 (ys.take q) we.drew (hfr.below (d2.mono hB2)) (Nat.le_trans hB2 d2.size) hqc (by omega) HK.out hkb HN.out hnb ⟨by omega, by omega⟩ (hL.below (d2.mono hB0)).1) ?_
      rintro e wy ⟨Ay, cy, rfl, hcy, hcmy, oy, hby⟩
      have c3 := y2.trans (hby.mono y2.size)
      have d3 := d2.trans (hby.mono d2.size)
      refine ⟨_, rfl, c3, ?_⟩
      simp only [Act.put, List.setIfInBounds_toArray, List.set_cons_zero, List.set_cons_succ]
      refine Held.take (v := .slice Ay q cy) 6 (some 8) rfl rfl (by kernel_rfl) (by kernel_rfl) (by kernel_rfl) (fun _ _ _ h => h) rfl (Held.y_assign rfl rfl) c3 ?_
      simp only [Act.put, List.setIfInBounds_toArray, List.set_cons_zero, List.set_cons_succ]
      refine Held.take (v := .int .i64 0) 7 (some 9) rfl rfl (by kernel_rfl) (by kernel_rfl) (by kernel_rfl) (fun _ _ _ h => h) rfl (Held.y_assign rfl rfl) c3 ?_
      simp only [Act.put, List.setIfInBounds_toArray, List.set_cons_zero, List.set_cons_succ]
      refine wpAnyH_done (by kernel_rfl) ?_ _
      go_wp2_with fail
      go_ret2
      exact ⟨d3, .inr ⟨_, Ay, cy, HO.out, by rw [Cc.xors_length, HYQ.out], rfl, oy.less d2.size⟩⟩
    · refine Held.op_call 4 (some 37) 26 #[.slice (some ⟨gt, 0, none⟩) 16 16, .slice A9 16 (c2 - q)] rfl rfl rfl rfl (enters_of Tryd.func26 (by kernel_rfl) rfl) (by simp [Act.eval]) (equal_not wz.heap.size B2 (some ⟨gt, 0, none⟩) A9 16 16 16 (c2 - q) T (ys.drop q) wz.drew (iz.below c1) (bz.below (c1.mono (Nat.le_trans hB2 dz.size))) (by omega) (by omega) heq) ?_
      rintro e we ⟨rfl, hbe⟩
      have ce := c1.trans (hbe.mono c1.size)
      have de := dz.drew.trans (hbe.mono dz.drew.size)
      refine ⟨_, rfl, ce, ?_⟩
      simp only [Act.put, List.setIfInBounds_toArray, List.set_cons_zero, List.set_cons_succ]
      refine Held.take (v := .bool true) 5 (some 38) rfl rfl (by kernel_rfl) (by kernel_rfl) (by kernel_rfl) (fun _ _ _ h => h) rfl (Held.y_eqi rfl rfl rfl) ce ?_
      simp only [Act.put, List.setIfInBounds_toArray, List.set_cons_zero, List.set_cons_succ]
      refine wpAnyH_done (by kernel_rfl) ?_ _
      have ho := HOP.out
      rw [if_neg heq] at ho
      have HO := Lib.hid ho
      clear ho heq
      go_wp2_with fail
      go_ret2
      exact ⟨de, .inl ⟨HO.out, rfl⟩⟩
end Go.Proofs.YtebcejncjljmhaaDoor.Ae
namespace Go.Proofs.YtebcejncjljmhaaDoor.Mem
open Go.RowKit
set_option linter.unusedVariables false

theorem wpList_text {P : Program} {ops : Array Oper} {rest : List Oper} {o1 o2 : Oper} {a : Act} {w : World} {Q : Exit → Act → World → Prop} (hg1 : o1.guard = none) (hg2 : o2.guard = none) (t e : TypeId) (len : Nat) (parts : Array (Nat × Operand)) (x : Operand)
    (ho1 : o1.op = .buildSlice t len parts) (ho2 : o2.op = .convert t t x) (zs : List Int) (hu : P.underlying t = some (.slice e)) (he : P.underlying e = some (.int .u8)) (hsz : (P.info? e).map (·.size) = some 1) (hz : ((P.info? e).bind (·.zero)).isSome = true)
    (hlen : len = zs.length) (hpos : 0 < len) (hsmall : len ≤ 2 ^ 24) (hparts : parts.toList = (zs.zipIdx 0).map fun x => (x.2, Operand.const (Value.int .u8 x.1))) (hwf : ∀ z ∈ zs, (Lit.int .u8 z).wf = true)
    (hx : (a.put o1.dst (.slice (some ⟨w.heap.size, 0, none⟩) len len)).eval x = .slice (some ⟨w.heap.size, 0, none⟩) len len)
    (h : ∀ w', Ints w' .u8 w'.heap.size (some ⟨w.heap.size, 0, none⟩) len zs → Below w.heap.size w w' → Hid (w'.heap.size = w.heap.size + 1) → wpList P ops Q rest ((a.put o1.dst (.slice (some ⟨w.heap.size, 0, none⟩) len len)).put o2.dst (.slice (some ⟨w.heap.size, 0, none⟩) len len)) w') :
    wpList P ops Q (o1 :: o2 :: rest) a w := by
  refine wpList_buildFlat hg1 t e len parts ho1 .u8 zs hu hsz hz hlen hpos hsmall hparts ?_
  refine wpList_plain hg2 fun K hK => ?_
  unfold Oper.wp execOp
  simp only [ho2, hx, Sem.run_bind, Lib.run_convert_bytes_const w t e _ len len hu he, Sem.run_pure, Result.andThen_ok]
  refine hK _ _ (h _ ⟨hlen.symm, hwf, fun _ => ⟨w.heap.size, 0, rfl, by simp, fun i hi => ?_⟩⟩ ((Below.refl _ w).alloc (Nat.le_refl _) _) (Lib.hid (by simp)))
  rw [World.cell?_alloc_mark, Nat.zero_add]
  exact arr_get .u8 zs (by omega)
end Go.Proofs.YtebcejncjljmhaaDoor.Mem
namespace Go.Proofs.YtebcejncjljmhaaDoor.Ae
open Go.RowKit Go.Shelf Go.Proofs.YtebcejncjljmhaaDoor.Mem Go.Proofs.YtebcejncjljmhaaDoor.Help Go.Proofs.YtebcejncjljmhaaDoor.Sum Go.Proofs.YtebcejncjljmhaaDoor.Po Go.Proofs.YtebcejncjljmhaaDoor
set_option linter.unusedVariables false
attribute [local irreducible] wpList wpListIn

/-- a result out of several, within a drawn region -/
theorem y_extract {P : Program} {S : World → Prop} {ρ : Operand → Value} {o : Oper} {x : Operand} {i : Nat} {vs : Array Value} {v : Value} (ho : o.op = .extract x i) (hx : ρ x = .tuple vs) (hv : vs[i]? = some v) : ∀ w, S w → (execOp ρ o).run P w = .ok (.value v) w := fun w _ => by
  simp [execOp, ho, hx, Instr.extract, hv]
def key1 : List Int := 1 :: List.replicate 31 0
def nonce2 : List Int := 2 :: List.replicate 11 0
theorem key1_bytes : Bs key1 := by intro z hz; simp [key1] at hz; rcases hz with rfl | ⟨_, rfl⟩ <;> omega
theorem nonce2_bytes : Bs nonce2 := by intro z hz; simp [nonce2] at hz; rcases hz with rfl | ⟨_, rfl⟩ <;> omega
set_option maxRecDepth 100000 in
set_option maxHeartbeats 4000000 in
theorem awake7_b (B0 : Nat) (w : World) (hL : Laid B0 w) (hB0 : B0 ≤ w.heap.size) : Calls Tryd.prog 10 #[] w fun e w' => e = .returned (.bool true) ∧ Below w.heap.size w w' := by
  have HXB : Hid (Bs [120]) := Lib.hid (by intro z hz; simp at hz; omega)
  have HOS := Lib.hid (opened_sealed key1 nonce2 [] HXB.out)
  have HSL := Lib.hid (sealed_length key1 nonce2 [] [120])
  go_enter Tryd.func10, Tryd.ntmps10
  go_wp2_with (first
    | (refine wpList_build_Row rfl 22 _ rfl .u8 key1 (by kernel_rfl) ?_)
    | (refine wpList_build_Row rfl 23 _ rfl .u8 nonce2 (by kernel_rfl) ?_)
    | (refine wpList_text (w := w) rfl rfl 24 5 1 _ _ rfl rfl [120] Tryd.underlying24 Tryd.underlying5 (by kernel_rfl) (by kernel_rfl) rfl (by omega) (by omega) (by kernel_rfl) (by decide) rfl ?_; intro w1 i1 b1 z1))
  have a1 : Arg w1 w1.heap.size (some ⟨w.heap.size, 0, none⟩) 1 1 [120] := ⟨i1, Nat.le_refl _, .inr (.inr ⟨_, _, rfl⟩), Nat.le_refl _, by simp [maxLen]⟩
  refine (seal_any key1 nonce2 B0 w1.heap.size none 0 0 [] w1.heap.size (some ⟨w.heap.size, 0, none⟩) 1 1 [120] w1 (hL.below (b1.mono hB0)) (Nat.le_trans hB0 b1.size) rfl key1_bytes rfl nonce2_bytes (Arg.nil _ _ (Nat.le_refl _)) (by omega) a1 (by omega)).mono ?_
  rintro e w2 ⟨A2, m, c2, rfl, HM, o2, hb2⟩
  have b2 := b1.trans (hb2.mono b1.size)
  have hm : m = 17 := by rw [← HM.out, HSL.out]; rfl
  subst hm
  have a2 := arg_of_own o2 HM.out
  clear i1 a1 hb2 o2
  go_wp2_with (first
    | (refine wpList_build_Row rfl 22 _ rfl .u8 key1 (by kernel_rfl) ?_)
    | (refine wpList_build_Row rfl 23 _ rfl .u8 nonce2 (by kernel_rfl) ?_))
  refine (open_any key1 nonce2 B0 w2.heap.size none 0 0 [] w2.heap.size A2 17 c2 1 (sealed key1 nonce2 [] [120]) w2 (hL.below (b2.mono hB0)) (Nat.le_trans hB0 b2.size) rfl key1_bytes rfl nonce2_bytes (Arg.nil _ _ (Nat.le_refl _)) (by omega) a2 (by omega) (by omega)).mono ?_
  rintro e w3 ⟨hb3, hr⟩
  rw [HOS.out] at hr
  rcases hr with ⟨hr, _⟩ | ⟨p, A3, c3, hp, hpl, rfl, o3⟩
  · cases hr
  cases hp
  have b3 := b2.trans (hb3.mono b2.size)
  have a3 := (arg_of_own o3 rfl).ints
  have t3 := run_text (P := Tryd.prog) w3 24 9 5 Tryd.underlying24 Tryd.underlying5 Tryd.underlying9 w3.heap.size A3 1 c3 [120] a3
  clear hb3 o3 a2 hpl
  have hs : ((strOfNums [120]).toList == [120]) = true := by kernel_rfl
  go_wp2_with fail
  go_ret
  exact ⟨rfl, b3⟩
end Go.Proofs.YtebcejncjljmhaaDoor.Ae
namespace Go.Proofs.YtebcejncjljmhaaDoor.Ae
open Go.RowKit Go.Shelf Go.Proofs.YtebcejncjljmhaaDoor.Mem Go.Proofs.YtebcejncjljmhaaDoor.Help Go.Proofs.YtebcejncjljmhaaDoor.Sum Go.Proofs.YtebcejncjljmhaaDoor.Po Go.Proofs.YtebcejncjljmhaaDoor
set_option linter.unusedVariables false

/-- what is told: bytes and a number -/
def told (key nonce xs ys : List Int) : List Int × Int :=
  if ys.length < 16 then ([], 3) else match opened key nonce xs ys with | none => ([], 6) | some p => (p, 0)
theorem open_told (key nonce : List Int) (B0 B A n c xs) (B2 A2 n2 c2 ys) (w : World) (hL : Laid B0 w) (hB0 : B0 ≤ w.heap.size) (hk : key.length = 32) (hkb : Bs key) (hnl : nonce.length = 12) (hnb : Bs nonce)
    (h : Arg w B A n c xs) (hn : n ≤ 65536) (h2 : Arg w B2 A2 n2 c2 ys) (hn2 : n2 ≤ 65552) :
    Calls Tryd.prog 16 #[.agg (arr .u8 key), .agg (arr .u8 nonce), .slice A n c, .slice A2 n2 c2] w fun e w' => ∃ A' m c' p er, e = .returned (.tuple #[.slice A' m c', .int .i64 er]) ∧ Hid (p.length = m) ∧ m ≤ 65536 ∧ Hid (told key nonce xs ys = (p, er)) ∧ Mem.Own w' w.heap.size 5 .u8 (.slice A' m c') p ∧ Below w.heap.size w w' := by
  by_cases hs : n2 < 16
  · refine (open_short key nonce B0 B A n c xs B2 A2 n2 c2 ys w hL hB0 hk hkb hnl hnb h hn h2 hs).mono ?_
    rintro e w' ⟨rfl, hb⟩
    exact ⟨none, 0, 0, [], 3, rfl, Lib.hid rfl, by omega, Lib.hid (by rw [told, if_pos (by rw [h2.len]; exact hs)]), Mem.Own.nil _ _ _ _, hb⟩
  · refine (open_any key nonce B0 B A n c xs B2 A2 n2 c2 (n2 - 16) ys w hL hB0 hk hkb hnl hnb h hn h2 (by omega) (by omega)).mono ?_
    rintro e w' ⟨hb, ⟨ho, rfl⟩ | ⟨p, A', c', ho, hp, rfl, o⟩⟩
    · exact ⟨none, 0, 0, [], 6, rfl, Lib.hid rfl, by omega, Lib.hid (by rw [told, if_neg (by rw [h2.len]; exact hs), ho]), Mem.Own.nil _ _ _ _, hb⟩
    · exact ⟨A', n2 - 16, c', p, 0, rfl, Lib.hid hp, by omega, Lib.hid (by rw [told, if_neg (by rw [h2.len]; exact hs), ho]), o, hb⟩
theorem ropen_told (key nonce : List Int) (B A n c xs) (B2 A2 n2 c2 ys) (w : World) (hk : key.length = 32) (hkb : Bs key) (hnl : nonce.length = 12) (hnb : Bs nonce)
    (h : Arg w B A n c xs) (hn : n ≤ 65536) (h2 : Arg w B2 A2 n2 c2 ys) (hn2 : n2 ≤ 65552) :
    Calls Tryd.prog 17 #[.agg (arr .u8 key), .agg (arr .u8 nonce), .slice A n c, .slice A2 n2 c2] w fun e w' => ∃ A' m c' p er, e = .returned (.tuple #[.slice A' m c', .int .i64 er]) ∧ Hid (p.length = m) ∧ m ≤ 65536 ∧ Hid (told key nonce xs ys = (p, er)) ∧ Mem.Own w' w.heap.size 5 .u8 (.slice A' m c') p ∧ Below w.heap.size w w' := by
  by_cases hs : n2 < 16
  · refine (ropen_short key nonce A n c A2 n2 c2 w hkb hnb hn hs).mono ?_
    rintro e w' ⟨rfl, hb⟩
    exact ⟨none, 0, 0, [], 3, rfl, Lib.hid rfl, by omega, Lib.hid (by rw [told, if_pos (by rw [h2.len]; exact hs)]), Mem.Own.nil _ _ _ _, hb⟩
  · refine (ropen_any key nonce B A n c xs B2 A2 n2 c2 (n2 - 16) ys w hk hkb hnl hnb h.ints h.2.1 hn h2.ints h2.2.1 h2.2.2.1 h2.2.2.2.1 (by omega) (by omega)).mono ?_
    rintro e w' ⟨hb, ⟨ho, rfl⟩ | ⟨p, A', c', ho, hp, rfl, o⟩⟩
    · exact ⟨none, 0, 0, [], 6, rfl, Lib.hid rfl, by omega, Lib.hid (by rw [told, if_neg (by rw [h2.len]; exact hs), ho]), Mem.Own.nil _ _ _ _, hb⟩
    · exact ⟨A', n2 - 16, c', p, 0, rfl, Lib.hid hp, by omega, Lib.hid (by rw [told, if_neg (by rw [h2.len]; exact hs), ho]), o, hb⟩

set_option maxRecDepth 100000
def aeLaid : List (String × DataW Unit) := [("domino/chacha.start", Rows.laid_domino_chacha_start), ("domino/poly.kept", Rows.laid_domino_poly_kept)]
theorem laid_of {w : World} (h : laidMetH Tryd.prog aeLaid w) : Laid w.heap.size w := by
  rw [MakeChecks.laidMetH_plain _ _ _ (by kernel_rfl)] at h
  have h1 : Lib.TabIs Tryd.prog w "domino/chacha.start" .u32 Cc.sigma := Lib.tabIs_of_head (e := 40) (n := 4) (zs := Cc.sigma) (t := 91) (g := 1) (by kernel_rfl) (by kernel_rfl) Tryd.underlying91 Tryd.underlying40 (by kernel_rfl) (by kernel_rfl) h
  have h2 : Lib.TabIs Tryd.prog w "domino/poly.kept" .u8 keptI := Lib.tabIs_of_head (e := 5) (n := 16) (zs := keptI) (t := 41) (g := 0) (by kernel_rfl) (by kernel_rfl) Tryd.underlying41 Tryd.underlying5 (by kernel_rfl) (by kernel_rfl) (laidMet.tail h)
  exact laid_of_two (Sha.tab_of_var (by kernel_rfl) h1) (tabK_of_var (by kernel_rfl) h2)
end Go.Proofs.YtebcejncjljmhaaDoor.Ae
namespace Go.Proofs.YtebcejncjljmhaaDoor.Mem
open Go.RowKit Go.ChangeShapes Go.WideShapes
set_option linter.unusedVariables false

def numOf' : Value → Int
  | .int _ z => z
  | _ => 0
theorem open_arr {H : Type} {enc : TypeId × Value → H} {P : Program} {w : World} {base : Nat} {spare : Nat → Bool} {held : Bool} {r : Reach} {b0 n : Nat} {t e : TypeId} {k : IntKind} {v : Value} {d : DataW H} {p : List MemPlace}
    (ht : P.underlying t = some (.array n e)) (he : P.underlying e = some (.int k)) (ce : P.cellsOf e = 1) (ct : P.cellsOf t = n) (hval : Value.okWide P w r b0 t v) (h : DataW.Trod enc P w base spare held t v d p) :
    ∃ zs, v = .agg (arr k zs) ∧ zs.length = n ∧ ∀ z ∈ zs, (Lit.int k z).wf = true := by
  simp only [Value.okWide, ht] at hval
  obtain ⟨cs, rfl, hsz, _⟩ := hval
  obtain ⟨fuel, hf⟩ := h
  simp only [Value.cells] at hf
  obtain ⟨xs, m, _, _, hl, hxl, hel⟩ := DataW.trod_array ht hf
  have hn : cs.toList.length = n := by rw [hl, ct]
  have each : ∀ i (hi : i < cs.toList.length), ∃ z, cs.toList[i] = .int k z ∧ (Lit.int k z).wf = true := by
    intro i hi
    have h1 := hel i (by omega)
    rw [ce, Nat.mul_one, List.getElem?_eq_getElem (by omega)] at h1
    obtain ⟨z, h2, _, h3⟩ := DataW.trod_int he h1
    rw [List.drop_eq_getElem_cons hi] at h2
    simp only [List.take_succ_cons, List.take_zero] at h2
    exact ⟨z, (List.cons.inj h2).1, h3⟩
  refine ⟨cs.toList.map numOf', ?_, by simpa using hn, fun z hz => ?_⟩
  · congr 1
    unfold arr
    rw [List.map_map]
    have : cs.toList.map (Value.int k ∘ numOf') = cs.toList := by
      apply List.ext_getElem
      · simp
      · intro i h1 h2
        obtain ⟨z, hz, _⟩ := each i h2
        rw [List.getElem_map, hz]
        rfl
    rw [this]
  · obtain ⟨v, hv, rfl⟩ := List.mem_map.1 hz
    obtain ⟨i, hi, rfl⟩ := List.mem_iff_getElem.1 hv
    obtain ⟨z, hz', hw⟩ := each i hi
    rw [hz']
    exact hw
end Go.Proofs.YtebcejncjljmhaaDoor.Mem
