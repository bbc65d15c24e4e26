/-
  Package pipe's iterator over what stands in all blocks behind each stage, by its contract.
  Package pipe's Stage by its contract, where nothing is refused: what stands in all blocks behind so many stages.
  slices.Concat of blocks of records, by its contract.
-/
import Derived.Test.YtlinmcgmkpkpaaaDoorB16
import Derived.Test.YtlinmcgmkpkpaaaDoorB17
import Derived.Test.YtlinmcgmkpkpaaaDoorB19
import Derived.Test.YtlinmcgmkpkpaaaDoorB10
set_option linter.unusedVariables false
namespace Go.Proofs.YtlinmcgmkpkpaaaDoor.Pi
open Go.RowKit Go.Shelf Mem Held Go.Proofs.YtlinmcgmkpkpaaaDoor.Range Ct Rc Rs Sl Vm Sp Mg
attribute [local go_sem] Oper.semAt_some
attribute [local irreducible] wpList wpListIn Calls
theorem round_wide {r : Option Nat} {n m : Nat} {P : Program} {l : Nat} {f : FuncId} {tmps : Array Value} {assign body : Code} {w : World} {R : Ending → World → Prop} (h : RoundIn Fence.wide n P l f tmps assign body w R) : RoundIn (Held.wideR r) m P l f tmps assign body w R :=
  ⟨trivial, fun c cs _ => h.2 c cs (by simp [Fence.room, Fence.wide])⟩
def atS (K : Int) (m f e : List O) (ps : List (Int × Int)) (B M T k : Nat) : Option (Nat × List (List R)) := if k ≤ 2 + 2 * T then some (k, stgB K m f e ps B M T k) else none
set_option maxRecDepth 100000 in
set_option maxHeartbeats 2000000 in
theorem stages_any (k : Int) (A1 A2 A3 A : Option Addr) (n1 c1 n2 c2 n3 c3 n c : Nat) (r kk b wk : Int) (w : World) :
    Calls Tryd.prog 32 #[.agg #[.int .i64 k, .slice A1 n1 c1, .slice A2 n2 c2, .slice A3 n3 c3], .agg #[.int .i64 r, .int .i64 kk, .int .i64 b, .int .i64 wk], .slice A n c] w fun e w' => ∃ bg bp bi : Nat, e = .returned (.func (.func 43) #[] #[.pointer (some ⟨bg, 0, none⟩), .pointer (some ⟨bp, 0, none⟩), .pointer (some ⟨bi, 0, none⟩)]) ∧
      Blk w' bg 26 #[.int .i64 k, .slice A1 n1 c1, .slice A2 n2 c2, .slice A3 n3 c3] ∧ Blk w' bp 28 #[.int .i64 r, .int .i64 kk, .int .i64 b, .int .i64 wk] ∧ Blk w' bi 29 #[.slice A n c] ∧ w.heap.size ≤ bg ∧ w.heap.size ≤ bp ∧ w.heap.size ≤ bi ∧ Below w.heap.size w w' := by
  go_enter Tryd.func32, Tryd.ntmps32
  go_wp2_with (first
    | (refine wpList_box_blk (w := w) rfl 26 _ rfl #[.int .i64 k, .slice A1 n1 c1, .slice A2 n2 c2, .slice A3 n3 c3] rfl ?_; intro u1 q1 g1 z1)
    | (refine wpList_box_blk (w := u1) rfl 28 _ rfl #[.int .i64 r, .int .i64 kk, .int .i64 b, .int .i64 wk] rfl ?_; intro u2 q2 g2 z2)
    | (refine Held.wpList_box_cell (w := u2) rfl 29 _ rfl (.slice A n c) rfl rfl ?_; intro u3 q3 g3 z3))
  go_ret
  exact ⟨_, _, _, rfl, (q1.grown g2 (by simp)).grown g3 (by simp), q2.grown g3 (by simp), q3, Nat.le_refl _, g1.size, Nat.le_trans g1.size g2.size, (((Below.refl _ w).grown g1 (Nat.le_refl _) (by simp)).grown g2 g1.size (by simp)).grown g3 (Nat.le_trans g1.size g2.size) (by simp)⟩
structure ST (Z B : Nat) (l bg bp bi b4 : Nat) (k : Nat) (A1 A2 A3 A : Option Addr) (n1 c1 n2 c2 n3 c3 n c : Nat) (b wk : Int) (m f fi : List O) (W : World) : Prop where
  y : Blk W b4 79 #[.func (.yield l) #[] #[]]
  g : Blk W bg 26 #[.int .i64 (k : Int), .slice A1 n1 c1, .slice A2 n2 c2, .slice A3 n3 c3]
  p : Blk W bp 28 #[.int .i64 (n : Int), .int .i64 (k : Int), .int .i64 b, .int .i64 wk]
  i : Blk W bi 29 #[.slice A n c]
  h1 : Lst kO W B A1 n1 m
  h2 : Lst kO W B A2 n2 f
  h3 : Lst kO W B A3 n3 fi
  T : Bi.TzT W
  lt : B ≤ Z ∧ b4 < Z ∧ bg < Z ∧ bp < Z ∧ bi < Z ∧ 1 < Z ∧ Z ≤ W.heap.size
section
variable {Z B : Nat} {l bg bp bi b4 : Nat} {k : Nat} {A1 A2 A3 A : Option Addr} {n1 c1 n2 c2 n3 c3 n c : Nat} {b wk : Int} {m f fi : List O} {W W' : World}
theorem ST.far (h : ST Z B l bg bp bi b4 k A1 A2 A3 A n1 c1 n2 c2 n3 c3 n c b wk m f fi W) {row : Option Nat} (hg : W.grownBy W' row) (hr : ∀ r, row = some r → Z ≤ r) : ST Z B l bg bp bi b4 k A1 A2 A3 A n1 c1 n2 c2 n3 c3 n c b wk m f fi W' := by
  obtain ⟨l1, l2, l3, l4, l5, l6, l7⟩ := h.lt
  have ne : ∀ q, q < Z → some q ≠ row := fun q hq e => by have := hr q e.symm; omega
  have hb : Below Z W W' := (Below.refl Z W).grown hg l7 hr
  exact ⟨h.y.grown hg (ne _ l2), h.g.grown hg (ne _ l3), h.p.grown hg (ne _ l4), h.i.grown hg (ne _ l5), h.h1.below (hb.mono l1), h.h2.below (hb.mono l1), h.h3.below (hb.mono l1), h.T.below hb l6, ⟨l1, l2, l3, l4, l5, l6, Nat.le_trans l7 hg.size⟩⟩
theorem ST.after (h : ST Z B l bg bp bi b4 k A1 A2 A3 A n1 c1 n2 c2 n3 c3 n c b wk m f fi W) (hb : Below W.heap.size W W') : ST Z B l bg bp bi b4 k A1 A2 A3 A n1 c1 n2 c2 n3 c3 n c b wk m f fi W' := h.far (grown_of_below hb none) (fun r e => by cases e)
theorem ST.more (h : ST Z B l bg bp bi b4 k A1 A2 A3 A n1 c1 n2 c2 n3 c3 n c b wk m f fi W) {Z' : Nat} (hz : Z ≤ Z') (hz2 : Z' ≤ W.heap.size) : ST Z' B l bg bp bi b4 k A1 A2 A3 A n1 c1 n2 c2 n3 c3 n c b wk m f fi W := by
  obtain ⟨l1, l2, l3, l4, l5, l6, l7⟩ := h.lt
  exact ⟨h.y, h.g, h.p, h.i, h.h1, h.h2, h.h3, h.T, ⟨by omega, by omega, by omega, by omega, by omega, by omega, hz2⟩⟩
theorem ST.keep (h : ST Z B l bg bp bi b4 k A1 A2 A3 A n1 c1 n2 c2 n3 c3 n c b wk m f fi W) {Sx : Nat → Prop} (hk : KeepL Sx W W') (s4 : ¬ Sx b4) (sg : ¬ Sx bg) (sp : ¬ Sx bp) (si : ¬ Sx bi) (sB : ∀ q, q < B → ¬ Sx q) (sT : ¬ Sx 1) : ST Z B l bg bp bi b4 k A1 A2 A3 A n1 c1 n2 c2 n3 c3 n c b wk m f fi W' := by
  obtain ⟨l1, l2, l3, l4, l5, l6, l7⟩ := h.lt
  exact ⟨hk.blk h.y s4, hk.blk h.g sg, hk.blk h.p sp, hk.blk h.i si, hk.lst sB h.h1, hk.lst sB h.h2, hk.lst sB h.h3, Po.TabK.only h.T hk.only sT, ⟨l1, l2, l3, l4, l5, l6, Nat.le_trans l7 hk.size⟩⟩
end
set_option maxRecDepth 100000 in
set_option maxHeartbeats 16000000 in
theorem stages_g (N bg bp bi Bs B k b S T : Nat) (wk : Int) (Sx : Nat → Prop) (A1 A2 A3 A : Option Addr) (n1 c1 n2 c2 n3 c3 n c : Nat) (m f fi : List O) (ps : List (Int × Int)) (w : World) (hN : 1 ≤ N)
    (qg : Blk w bg 26 #[.int .i64 (k : Int), .slice A1 n1 c1, .slice A2 n2 c2, .slice A3 n3 c3]) (qp : Blk w bp 28 #[.int .i64 (n : Int), .int .i64 (k : Int), .int .i64 (b : Int), .int .i64 wk]) (qi : Blk w bi 29 #[.slice A n c])
    (h1 : Lst kO w B A1 n1 m) (h2 : Lst kO w B A2 n2 f) (h3 : Lst kO w B A3 n3 fi) (hp : Lst kP w B A n ps) (hB : B ≤ w.heap.size) (hC : checkB (k : Int) m f fi = true) (hR : rightB (n : Int) (k : Int) (b : Int) wk = true) (hM : allI (n : Int) (k : Int) (b : Int) = ((2 ^ S : Nat) : Int)) (hS : S ≤ 5) (hTS : Bi.tri S = T) (hL : n * k < 2 ^ S * b) (hT : Bi.TzT w) (hBs : Bs ≤ w.heap.size)
    (sg : ¬ Sx bg) (sp : ¬ Sx bp) (si : ¬ Sx bi) (sB : ∀ q, q < B → ¬ Sx q) (sT : ¬ Sx 1) (sZ : ∀ q, w.heap.size ≤ q → ¬ Sx q) :
    SeqG Fence.wide N Tryd.prog 43 #[.pointer (some ⟨bg, 0, none⟩), .pointer (some ⟨bp, 0, none⟩), .pointer (some ⟨bi, 0, none⟩)] TL (EncG Bs) (KeepL Sx) (atS (k : Int) m f fi ps b (2 ^ S) T) w := by
  intro l J Jx W hW hJ hJx hY h0
  have hlen := hp.1
  obtain ⟨_, ⟨_, hk4⟩, ⟨hb1, hb8⟩, _, _⟩ := right_says hR
  obtain ⟨⟨_, hn64⟩, _⟩ := right_says hR
  have hLe : ps.length * k ≤ 2 ^ S * b := by rw [hlen]; omega
  have hME := mapB_even (B := b) (S := S) hC hLe
  have hMW := mapB_wf (K := k) (f := f) (e := fi) (B := b) (S := S) hC hLe h1.2.1 hp.2.1 (by rw [hlen]; omega)
  have hMN : (mapB (k : Int) m f fi ps b (2 ^ S)).length = 2 ^ S := mapB_length
  have HAT := Lib.hid (fun (j : Nat) (hj : j ≤ 2 + 2 * T) => show atS (k : Int) m f fi ps b (2 ^ S) T j = some (j, stgB (k : Int) m f fi ps b (2 ^ S) T j) by rw [atS, if_pos hj])
  have HNO := Lib.hid (fun (j : Nat) (hj : 2 + 2 * T < j) => show atS (k : Int) m f fi ps b (2 ^ S) T j = none by rw [atS, if_neg (by omega)])
  have HS0 := Lib.hid (show stgB (k : Int) m f fi ps b (2 ^ S) T 0 = [] by rw [stgB, if_pos rfl])
  have HS1 := Lib.hid (fun (j : Nat) (hj : j ≤ T) => show stgB (k : Int) m f fi ps b (2 ^ S) T (1 + j) = behB true (2 ^ S) (mapB (k : Int) m f fi ps b (2 ^ S)) j by rw [stgB, if_neg (by omega), if_pos (by omega), Nat.add_sub_cancel_left])
  have HS2 := Lib.hid (fun (j : Nat) => show stgB (k : Int) m f fi ps b (2 ^ S) T (2 + T + j) = behB false (2 ^ S) (foldC (foldV (k : Int) m f fi) (finishV (k : Int) m f fi) RD (behB true (2 ^ S) (mapB (k : Int) m f fi ps b (2 ^ S)) T)) j by rw [stgB, if_neg (by omega), if_neg (by omega), show 2 + T + j - 2 - T = j by omega])
  have HMP := Lib.hid (fun (X : World) (h1 : Lst kO X B A1 n1 m) (h2 : Lst kO X B A2 n2 f) (h3 : Lst kO X B A3 n3 fi) (hp : Lst kP X B A n ps) (hB : B ≤ X.heap.size) => mapped_ok B k b S wk A1 A2 A3 A n1 c1 n2 c2 n3 c3 n c m f fi ps X h1 h2 h3 hp hB hC hR hM hS hL)
  have HRG := Lib.hid (fun (bl bq : Nat) (Sy : Nat → Prop) (A0 : Option Addr) (c0 : Nat) (X : World) (q1 : Blk X bl 45 #[.slice A0 (2 ^ S) c0]) (q2 : Blk X bq 4 #[.bool true]) (hG : Grid X Bs (.slice A0 (2 ^ S) c0) (mapB (k : Int) m f fi ps b (2 ^ S))) (hT : Bi.TzT X) (hBs : Bs ≤ X.heap.size) (s1 : ¬ Sy bl) (s2 : ¬ Sy bq) (s3 : ¬ Sy 1) => rounds_g (N - 1) bl bq Bs S b T Sy A0 (2 ^ S) c0 (mapB (k : Int) m f fi ps b (2 ^ S)) true X q1 q2 hG hMN hS (fun x hx => (hME x hx).1) (by omega) hMW hT hTS (fun r hr x hx => (behB_even hME hMN (by omega) x hx).1) hBs s1 s2 s3)
  have hBE := behB_even (S := S) hME hMN (Nat.le_refl (Bi.tri S))
  have hBW := behB_wf (seq := true) (S := S) hMW hMN (Nat.le_refl (Bi.tri S))
  have hBN : (behB true (2 ^ S) (mapB (k : Int) m f fi ps b (2 ^ S)) (Bi.tri S)).length = 2 ^ S := by rw [behB_length, hMN]
  rw [hTS] at hBE hBW hBN
  have HFD := Lib.hid (fun (A5 : Option Addr) (c5 : Nat) (X : World) (h1 : Lst kO X B A1 n1 m) (h2 : Lst kO X B A2 n2 f) (h3 : Lst kO X B A3 n3 fi) (hB : B ≤ X.heap.size) (hG : Grid X Bs (.slice A5 (2 ^ S) c5) (behB true (2 ^ S) (mapB (k : Int) m f fi ps b (2 ^ S)) T)) => folded_ok B Bs S b (k : Int) A1 A2 A3 A5 n1 c1 n2 c2 n3 c3 (2 ^ S) c5 m f fi _ X h1 h2 h3 hB hC hG hBN hS (fun x hx => (hBE x hx).1) (by omega) hBW)
  have hFE := foldC_even (foldV (k : Int) m f fi) (finishV (k : Int) m f fi) RD (behB true (2 ^ S) (mapB (k : Int) m f fi ps b (2 ^ S)) T) (fun x hx => (hBE x hx).1)
  have hFW := outs_wfs (F := foldV (k : Int) m f fi) (G := finishV (k : Int) m f fi) (fun a v ha hv => Sp.foldV_wf (K := (k : Int)) (m := m) (e := fi) h2.2.1 a v ha hv) (fun a v ha hv => Sp.finishV_wf (K := (k : Int)) (m := m) (f := f) h3.2.1 a v ha hv) hBW
  have hFN : (foldC (foldV (k : Int) m f fi) (finishV (k : Int) m f fi) RD (behB true (2 ^ S) (mapB (k : Int) m f fi ps b (2 ^ S)) T)).length = 2 ^ S := by rw [foldC_length, hBN]
  have HRH := Lib.hid (fun (bl bq : Nat) (Sy : Nat → Prop) (A0 : Option Addr) (c0 : Nat) (X : World) (q1 : Blk X bl 45 #[.slice A0 (2 ^ S) c0]) (q2 : Blk X bq 4 #[.bool false]) (hG : Grid X Bs (.slice A0 (2 ^ S) c0) (foldC (foldV (k : Int) m f fi) (finishV (k : Int) m f fi) RD (behB true (2 ^ S) (mapB (k : Int) m f fi ps b (2 ^ S)) T))) (hT : Bi.TzT X) (hBs : Bs ≤ X.heap.size) (s1 : ¬ Sy bl) (s2 : ¬ Sy bq) (s3 : ¬ Sy 1) => rounds_g (N - 1) bl bq Bs S b T Sy A0 (2 ^ S) c0 _ false X q1 q2 hG hFN hS (fun x hx => (hFE x hx).1) (by omega) hFW hT hTS (fun r hr x hx => (behB_even hFE hFN (by omega) x hx).1) hBs s1 s2 s3)
  have HL1 := Lib.hid (fun (j : Nat) => show (behB true (2 ^ S) (mapB (k : Int) m f fi ps b (2 ^ S)) j).length = 2 ^ S by rw [behB_length, hMN])
  have HL2 := Lib.hid hFN
  have hM32 : 2 ^ S ≤ 32 := Nat.pow_le_pow_right (n := 2) (i := S) (by omega) hS
  have hT136 : T ≤ 136 := by rw [← hTS]; exact Bi.tri_le (by omega)
  have hstg : Bi.stg ((2 ^ S : Nat) : Int) = S := by rw [← Bi.two_nat]; exact Bi.stg_pow (by omega)
  have HRN := Lib.hid (fun (X : World) hT => Bi.rounds_any ((2 ^ S : Nat) : Int) X (by omega) (by omega) hT)
  rw [hstg, hTS] at HRN
  have HMT := Lib.hid (fun (V : Value) (X : World) (bs : List (List R)) (hl : bs.length = 2 ^ S) (hG : Grid X Bs V bs) => show ∃ A c, V = .slice A (2 ^ S) c from by
    obtain ⟨A, m, c, rfl, hm⟩ := hG.form
    exact ⟨A, c, by rw [← hm.out, hl]⟩)
  have HY := Lib.hid (fun (j : Nat) (V : Value) (W1 : World) (hj : j ≤ 2 + 2 * T) (hJk : J j W1) (hG : Grid W1 Bs V (stgB (k : Int) m f fi ps b (2 ^ S) T j)) (hs : W.heap.size ≤ W1.heap.size) => hY j (j, stgB (k : Int) m f fi ps b (2 ^ S) T j) #[.int .i64 (j : Int), V] W1 hJk (HAT.out j hj) ⟨V, rfl, hG⟩ hs)
  generalize mapB (k : Int) m f fi ps b (2 ^ S) = mb at *
  generalize foldC (foldV (k : Int) m f fi) (finishV (k : Int) m f fi) RD (behB true (2 ^ S) mb T) = fb at *
  generalize atS (k : Int) m f fi ps b (2 ^ S) T = at_ at *
  generalize stgB (k : Int) m f fi ps b (2 ^ S) T = sg_ at *
  generalize 2 ^ S = M at *
  have qg := qg.after hW
  have qp := qp.after hW
  have qi := qi.after hW
  have h1 := (h1.below (hW.mono hB))
  have h2 := (h2.below (hW.mono hB))
  have h3 := (h3.below (hW.mono hB))
  have hp := (hp.below (hW.mono hB))
  have hT := hT.below hW hT.lt
  have hB := Nat.le_trans hB hW.size
  have hBs := Nat.le_trans hBs hW.size
  have sZ : ∀ q, W.heap.size ≤ q → ¬ Sx q := fun q hq => sZ q (Nat.le_trans hW.size hq)
  clear hY hC hR hM hS hTS hL hLe hME hMW hMN hBE hBW hBN hFE hFW hFN hstg HAT hlen hk4 hb1 hb8 hn64 hW
  refine callsIn_of_wp_marks Tryd.func43 rfl trivial ?_ rfl
  simp only [Tryd.ntmps43, List.size_toArray, List.length_cons, List.length_nil, Nat.reduceAdd, Nat.reduceSub, Array.replicate_succ, Array.replicate_zero, List.push_toArray, List.append_toArray, List.nil_append, List.cons_append]
  gi_wp2_with (refine Held.wpListIn_one (r := none) rfl (by intro c e; cases e) ?_; refine Held.wpList_box_cell (w := W) rfl 79 _ rfl (.func (.yield l) #[] #[]) rfl rfl ?_; intro u1 q4 g4 z4; have q4 : Blk u1 W.heap.size 79 #[.func (.yield l) #[] #[]] := q4; have c4 := q4.cell (i := 0) rfl; have hJ0 := hJ.new h0 g4; obtain ⟨fn, tmps, assign, body, hy, hR⟩ := HY.out 0 (.slice none 0 0) u1 (by omega) hJ0 (by rw [HS0.out]; exact Grid.nil _ _) g4.size; have hy : (Instr.yield l #[.int .i64 0, .slice none 0 0]).run Tryd.prog u1 = .ok (.round l fn tmps assign body) u1 := hy; refine wpList_nil ⟨rfl, ?_⟩)
  have hs1 : W.heap.size < u1.heap.size := q4.lt
  have bb : Below W.heap.size W u1 := (Below.refl _ W).grown g4 (Nat.le_refl _) (by simp)
  have hgW : bg < W.heap.size := qg.lt
  have hpW : bp < W.heap.size := qp.lt
  have hiW : bi < W.heap.size := qi.lt
  have hTW := hT.lt
  have hS0 : ST u1.heap.size B l bg bp bi W.heap.size k A1 A2 A3 A n1 c1 n2 c2 n3 c3 n c (b : Int) wk m f fi u1 := ⟨q4, qg.after bb, qp.after bb, qi.after bb, h1.below (bb.mono hB), h2.below (bb.mono hB), h3.below (bb.mono hB), hT.below bb hTW, ⟨by omega, by omega, by omega, by omega, by omega, by omega, by omega⟩⟩
  have hp := hp.below (bb.mono hB)
  have s4 : ¬ Sx W.heap.size := sZ _ (Nat.le_refl _)
  clear qg qp qi h1 h2 h3 hT h0 g4 z4 bb hJ0
  generalize hb4 : W.heap.size = b4 at *
  have HB4 := Lib.hid hb4
  first | refine hR.mono ?_ | (refine ⟨fun h => (by cases h), ?_⟩; refine hR.mono ?_)
  rintro e W1 ⟨-, (⟨rfl, J1, k1⟩ | ⟨rfl, x1⟩)⟩
  case inr =>
    gi_wp2_with fail
    exact ⟨_, results_none rfl _ _ _, ⟨_, rfl⟩, .inr ⟨_, x1⟩⟩
  have hS1 := hS0.keep k1 s4 sg sp si sB sT
  have hp := k1.lst sB hp
  have hsW := Nat.le_trans (Nat.le_of_lt hs1) k1.size
  have hs1W : u1.heap.size ≤ W1.heap.size := k1.size
  clear hR hy k1 hS0 c4 q4
  gi_wp2_with (first
    | (refine Held.wpListIn_one (r := none) rfl (by intro c e; cases e) ?_; refine Held.wpList_alloc_cell (w := W1) rfl 45 rfl (.slice none 0 0) (by kernel_rfl) rfl ?_; intro u2 q5 g5 z5; have bb : Below W1.heap.size W1 u2 := (Below.refl _ W1).grown g5 (Nat.le_refl _) (by simp); have hS2 := (hS1.more hs1W (Nat.le_refl _)).after bb; have hg1 := hS2.g; have hp1 := hS2.p; have ci := hS2.i.cell (i := 0) rfl; refine wpList_nil ⟨rfl, ?_⟩)
    | (refine Held.wpListIn_one (r := none) rfl (by intro c e; cases e) ?_; refine wpList_load_blk (w := u2) rfl 26 _ rfl bg 4 rfl 26 _ hg1 _ Tryd.underlying26 rfl info_prog rfl ?_; refine wpList_nil ⟨rfl, ?_⟩)
    | (refine Held.wpListIn_one (r := none) rfl (by intro c e; cases e) ?_; refine wpList_load_blk (w := u2) rfl 28 _ rfl bp 4 rfl 28 _ hp1 _ Tryd.underlying28 rfl size_params rfl ?_; refine wpList_nil ⟨rfl, ?_⟩))
  have q5 : Blk u2 W1.heap.size 45 #[.slice none 0 0] := q5
  have hs2 : W1.heap.size < u2.heap.size := q5.lt
  have J1 := hJ.new J1 g5
  have hp := hp.below (bb.mono (by omega))
  have hb45 : b4 < W1.heap.size := by omega
  clear g5 z5 bb hS1
  generalize hb5 : W1.heap.size = b5 at *
  first | refine ⟨trivial, ?_⟩ | refine ⟨trivial, fun h => (by cases h), ?_⟩
  refine (callsIn_wide.2 (HMP.out u2 hS2.h1 hS2.h2 hS2.h3 hp (by omega))).mono ?_
  rintro e u3 ⟨V0, rfl, G0, d3⟩
  have hS1 := hS2.after d3
  have J1 := hJ.new J1 (grown_of_below d3 none)
  have q5 := q5.after d3
  have G0 : Grid u3 Bs V0 (behB true M mb 0) := G0.less (by omega)
  have hs3 := d3.size
  obtain ⟨A0, c0, rfl⟩ := HMT.out V0 u3 _ (HL1.out 0) G0
  clear d3 hp hg1 hp1 ci hS2
  gi_wp2_with fail
  first | refine ⟨trivial, ?_⟩ | refine ⟨trivial, fun h => (by cases h), ?_⟩
  refine (callsIn_wide.2 (rounds_any (.slice A0 M c0) true u3 rfl)).mono ?_
  rintro e u4 ⟨bl, bq, rfl, ql, qq, hbl, hbq, d4⟩
  have hS1 := hS1.after d4
  have J1 := hJ.new J1 (grown_of_below d4 none)
  have q5 := q5.after d4
  have G0 := G0.below d4
  have hs4 := d4.size
  have hit := HRG.out bl bq (fun q => Sx q ∨ q = b5) A0 c0 u4 ql qq G0 hS1.T (by omega) (fun e => e.elim (sZ _ (by omega)) (by omega)) (fun e => e.elim (sZ _ (by omega)) (by omega)) (fun e => e.elim sT (by omega))
  have h5u : b5 < u4.heap.size := by omega
  have hbu : b4 ≤ u4.heap.size := by omega
  have n5 : ¬ TL 45 := by unfold TL; decide
  clear d4 ql qq hbl hbq G0 HRG hs1W hs2 hs3 hs4 hb5
  gi_wp2_with fail
  refine wpIn_rangeFunc_g rfl hN (gf := 52) (lb := #[.pointer (some ⟨bl, 0, none⟩), .pointer (some ⟨bq, 0, none⟩)]) rfl trivial (enters_of Tryd.func52 (by kernel_rfl) rfl)
    hit (fun h k => h.trans k) (fun W l o o' _ ho hc _ => KeepL.put W l o o' ho hc) (Below.refl _ _) (fun x W args hx => by obtain ⟨V, rfl, _⟩ := hx; rfl)
    (fun j X => j ≤ T + 1 ∧ J (1 + j) X ∧ ST b5 B l bg bp bi b4 k A1 A2 A3 A n1 c1 n2 c2 n3 c3 n c (b : Int) wk m f fi X ∧ ∃ V, Blk X b5 45 #[V] ∧ (1 ≤ j → Grid X Bs V (behB true M mb (j - 1))))
    (fun c j X => c = .ret ∧ ∃ q, Jx q X) ?hI ?hIx ⟨by omega, J1, hS1, _, q5, fun h => absurd h (by omega)⟩
    (fun x a' j X => (j ≤ T + 1 ∧ J (1 + j) X ∧ ST b5 B l bg bp bi b4 k A1 A2 A3 A n1 c1 n2 c2 n3 c3 n c (b : Int) wk m f fi X ∧ ∃ V, Blk X b5 45 #[V]) ∧ ∃ V, Grid X Bs V x.2 ∧ a' = { tmps := #[.func (.yield l) #[] #[], .pointer (some ⟨bg, 0, none⟩), .pointer (some ⟨bp, 0, none⟩), .pointer (some ⟨bi, 0, none⟩), .pointer (some ⟨b4, 0, none⟩), .pointer (some ⟨b5, 0, none⟩), .int .i64 (x.1 : Int), V, undef, undef, undef, .func (.yield l) #[] #[], .bool true, .bool false, .agg #[.int .i64 (k : Int), .slice A1 n1 c1, .slice A2 n2 c2, .slice A3 n3 c3], .agg #[.int .i64 (n : Int), .int .i64 (k : Int), .int .i64 (b : Int), .int .i64 wk], .slice A n c, .slice A0 M c0, .func (.func 52) #[] #[.pointer (some ⟨bl, 0, none⟩), .pointer (some ⟨bq, 0, none⟩)], .int .i64 (x.1 : Int), V, undef, undef, undef, undef, undef, undef, undef, undef, undef, undef, undef, undef, undef, undef, undef, undef, undef, undef, undef, undef, undef, undef, undef, undef], defers := [] }) ?hIb ?assign ?body ?done ?stop
  case hI =>
    rintro j X X' row ⟨hj, hj1, hS, V, q, hG⟩ hg hr
    exact ⟨hj, hJ _ X X' row hj1 hg (fun r e => ⟨by have := (hr r e).1; omega, (hr r e).2⟩), hS.far hg (fun r e => by have := (hr r e).1; omega), V, q.grown hg (fun e => by have := (hr _ e.symm).1; omega), fun h => (hG h).far hg (fun r e => (hr r e).2)⟩
  case hIx =>
    rintro cc j X X' row ⟨hc, q, hq⟩ hg hr
    exact ⟨hc, q, hJx _ X X' row hq hg (fun r e => ⟨by have := (hr r e).1; omega, (hr r e).2⟩)⟩
  case hIb =>
    rintro x a' j X X' row ⟨⟨hj, hj1, hS, V, q⟩, V2, hG, h3⟩ hg hr
    have hr' : ∀ r, row = some r → u4.heap.size ≤ r ∧ NoL TL X r := fun r e => by
      obtain ⟨h1, o, ho, hc⟩ := hr r e
      exact ⟨h1, nol_off ho hc⟩
    exact ⟨⟨hj, hJ _ X X' row hj1 hg (fun r e => ⟨by have := (hr' r e).1; omega, (hr' r e).2⟩), hS.far hg (fun r e => by have := (hr' r e).1; omega), V, q.grown hg (fun e => by have := (hr' _ e.symm).1; omega)⟩, V2, hG.far hg (fun r e => (hr' r e).2), h3⟩
  case assign =>
    rintro l' j x args X K ⟨hj, hj1, hS, V, q, _⟩ hat ⟨V2, rfl, hG⟩ hsz hK
    simp only [Held.zip_two, List.setIfInBounds_toArray, List.set_cons_zero, List.set_cons_succ]
    gi_wp2_with fail
    exact hK _ _ (KeepsFrom.refl _ _) (KeepL.refl _ _) ⟨⟨hj, hj1, hS, V, q⟩, V2, hG, rfl⟩
  case body =>
    rintro l' j x a' X hl' hrec ⟨⟨hj, Jj, hS, V0, q5⟩, V, hG, rfl⟩ hat hsz
    obtain ⟨hjT, rfl⟩ : j ≤ T ∧ x = (j, behB true M mb j) := by
      unfold atR at hat
      split at hat
      · injection hat with hat
        exact ⟨by assumption, hat.symm⟩
      · cases hat
    dsimp only at hG ⊢
    obtain ⟨A7, c7, rfl⟩ := HMT.out V X _ (HL1.out j) hG
    have hadd : IntKind.i64.wrap (1 + (j : Int)) = 1 + (j : Int) := by rw [IntKind.wrap_i64]; omega
    have no5 : NoL TL X b5 := nol_of q5 n5
    gi_wp2_with (refine Held.wpListIn_one (r := some l') rfl (by intro c e; cases e) ?_; refine Held.wpList_store_box (w := X) rfl 45 _ _ rfl b5 rfl _ _ (.slice A7 M c7) rfl q5 (by kernel_rfl) rfl rfl ?_; intro X1 q51 g51; have q51 : Blk X1 b5 45 #[.slice A7 M c7] := q51; have c5 := q51.cell (i := 0) rfl; have hS1 := hS.far g51 (fun r e => by cases e; exact Nat.le_refl _); have c4 := hS1.y.cell (i := 0) rfl; have J1 := hJ _ X X1 _ Jj g51 (fun r e => by cases e; exact ⟨by omega, no5⟩); have G1 := hG.far g51 (fun r e => by cases e; exact no5); have hsX := Nat.le_trans hsz g51.size; obtain ⟨fn, tmps, assign, body, hy, hR⟩ := HY.out (1 + j) (.slice A7 M c7) X1 (by omega) J1 (by rw [HS1.out j hjT]; exact G1) (by omega); have hy : (Instr.yield l #[.int .i64 (1 + (j : Int)), .slice A7 M c7]).run Tryd.prog X1 = .ok (.round l fn tmps assign body) X1 := hy; refine wpList_nil ⟨rfl, ?_⟩)
    have kA : KeepsFrom u4.heap.size X X1 := KeepsFrom.of_grownBy g51 (fun r e => by cases e; exact h5u)
    have kB : KeepL (fun q => Sx q ∨ q = b5) X X1 := KeepL.of_grown g51 (fun r e => by cases e; exact ⟨.inr rfl, no5⟩)
    clear hS Jj hG g51 no5 J1
    first | refine (round_wide (r := some l') hR).mono ?_ | (refine ⟨fun h => (by cases h), ?_⟩; refine (round_wide (r := some l') hR).mono ?_)
    rintro e X2 ⟨kf, (⟨rfl, J2, k2⟩ | ⟨rfl, x2⟩)⟩
    · have kf2 : KeepsFrom u4.heap.size X1 X2 := ⟨kf.size, fun i o hB h h' => kf.same i o (by omega) h h'⟩
      have hS2 := hS1.keep k2 s4 sg sp si sB sT
      have q52 := k2.blk q51 (sZ _ (by omega))
      have G2 := k2.grid G1
      clear hR hy
      gi_wp2_with fail
      exact ⟨kA.trans kf2, kB.trans (k2.more fun q hq => .inl hq), by omega, J2, hS2, _, q52, fun _ => G2⟩
    · have kf2 : KeepsFrom u4.heap.size X1 X2 := ⟨kf.size, fun i o hB h h' => kf.same i o (by omega) h h'⟩
      gi_wp2_with fail
      exact ⟨kA.trans kf2, rfl, _, x2⟩
  case stop =>
    rintro D cc j X hD ⟨rfl, q, hq⟩ hDh
    gi_wp2_with fail
    refine ⟨by simp, .inl ⟨_, _, rfl, run_takeDeferred hDh, ?_⟩⟩
    exact ⟨_, results_none rfl _ _ _, ⟨_, rfl⟩, .inr ⟨q, hJx.put _ hq (by omega) hDh rfl⟩⟩
  case done =>
    rintro D j X hD hat ⟨hj, Jj, hS, V, q5, hG⟩ hDh
    obtain rfl : j = T + 1 := by
      unfold atR at hat
      split at hat
      · cases hat
      · omega
    have hG := hG (by omega)
    rw [Nat.add_sub_cancel] at hG
    obtain ⟨A5, c5, rfl⟩ := HMT.out V X _ (HL1.out T) hG
    have cq5 := q5.cell (i := 0) rfl
    have hbX : b5 ≤ X.heap.size := Nat.le_of_lt q5.lt
    have hDX : D < X.heap.size := (Array.getElem?_eq_some_iff.1 hDh).1
    have hadd : IntKind.i64.wrap (2 + (T : Int)) = ((2 + T : Nat) : Int) := by rw [IntKind.wrap_i64]; omega
    have HAD := Lib.hid hadd
    clear hit hadd
    gi_wp2_with fail
    first | refine ⟨trivial, ?_⟩ | refine ⟨trivial, fun h => (by cases h), ?_⟩
    refine (callsIn_wide.2 (HRN.out X hS.T)).mono ?_
    rintro e X' ⟨rfl, rfl⟩
    gi_wp2_with (first
      | (refine Held.wpListIn_one (r := none) rfl (by intro c e; cases e) ?_; refine Held.wpList_run (w := X) rfl (v := .int .i64 ((2 + T : Nat) : Int)) (Held.y_int (S := fun _ => True) rfl rfl rfl (Held.run_add 3 .i64 HAD.out) _ trivial) ?_; refine wpList_nil ⟨rfl, ?_⟩)
      | (refine Held.wpListIn_one (r := none) rfl (by intro c e; cases e) ?_; refine Held.wpList_alloc_cell (w := X) rfl 3 rfl (.int .i64 0) (by kernel_rfl) rfl ?_; intro X1 q8 g8 z8; refine wpList_nil ⟨rfl, ?_⟩)
      | (refine Held.wpListIn_one (r := none) rfl (by intro c e; cases e) ?_; refine Held.wpList_store_box (w := X1) rfl 3 _ _ rfl X.heap.size rfl _ _ (.int .i64 ((2 + T : Nat) : Int)) rfl q8 (by kernel_rfl) rfl rfl ?_; intro X2 q82 g82; have hS2 := (hS.far g8 (fun r e => by cases e)).far g82 (fun r e => by cases e; exact hbX); have hg1 := hS2.g; have q52 := (q5.grown g8 (by simp)).grown g82 (by intro e; injection e with e; have := q5.lt; omega); have c52 := q52.cell (i := 0) rfl; refine wpList_nil ⟨rfl, ?_⟩)
      | (refine Held.wpListIn_one (r := none) rfl (by intro c e; cases e) ?_; refine wpList_load_blk (w := X2) rfl 26 _ rfl bg 4 rfl 26 _ hg1 _ Tryd.underlying26 rfl info_prog rfl ?_; refine wpList_nil ⟨rfl, ?_⟩))
    have q8 : Blk X1 X.heap.size 3 #[.int .i64 0] := q8
    have q82 : Blk X2 X.heap.size 3 #[.int .i64 ((2 + T : Nat) : Int)] := q82
    have n8 : ¬ TL 3 := by unfold TL; decide
    have no8 : NoL TL X1 X.heap.size := nol_of q8 n8
    have l8 : X.heap.size < X1.heap.size := q8.lt
    have l82 := g82.size
    have hG2 := (hG.far g8 (fun r e => by cases e)).far g82 (fun r e => by cases e; exact no8)
    have J2 := hJ _ _ _ _ (hJ.new Jj g8) g82 (fun r e => by cases e; exact ⟨by omega, no8⟩)
    have D2 : X2.heap[D]? = some (.deferred (some [])) := (g82.block D (by omega) (fun e => by injection e with e; omega)).trans ((g8.block D hDX (by simp)).trans hDh)
    clear hG Jj hDh g8 g82 q8 no8 z8 q5 q52 c52 cq5 hS hg1 HAD hat
    obtain ⟨b8, hb8⟩ : ∃ b8, X.heap.size = b8 := ⟨_, rfl⟩
    rw [hb8] at q82 l8 hDX hbX ⊢
    clear hb8
    first | refine ⟨trivial, ?_⟩ | refine ⟨trivial, fun h => (by cases h), ?_⟩
    refine (callsIn_wide.2 (HFD.out A5 c5 X2 hS2.h1 hS2.h2 hS2.h3 (by omega) hG2)).mono ?_
    rintro e X3 ⟨V6, rfl, G6, d3⟩
    have hS3 := hS2.after d3
    have J3 := hJ.new J2 (grown_of_below d3 none)
    have q83 := q82.after d3
    have D3 := (d3.block D (by omega)).trans D2
    have G6 := G6.less (show Bs ≤ X2.heap.size by omega)
    obtain ⟨A6, c6, rfl⟩ := HMT.out V6 X3 _ HL2.out G6
    have l3 := d3.size
    clear d3 hS2 J2 q82 D2 hG2 HFD HMP HRN
    gi_wp2_with fail
    first | refine ⟨trivial, ?_⟩ | refine ⟨trivial, fun h => (by cases h), ?_⟩
    refine (callsIn_wide.2 (rounds_any (.slice A6 M c6) false X3 rfl)).mono ?_
    rintro e u6 ⟨bl2, bq2, rfl, ql, qq, hbl, hbq, d4⟩
    have hS4 := hS3.after d4
    have J4 := hJ.new J3 (grown_of_below d4 none)
    have q84 := q83.after d4
    have D4 := (d4.block D (by omega)).trans D3
    have G6 := G6.below d4
    have l4 := d4.size
    have hit := HRH.out bl2 bq2 Sx A6 c6 u6 ql qq G6 hS4.T (by omega) (sZ _ (by omega)) (sZ _ (by omega)) sT
    clear d4 hS3 J3 q83 D3 ql qq hbl hbq G6 HRH
    gi_wp2_with fail
    refine wpIn_rangeFunc_g rfl hN (gf := 52) (lb := #[.pointer (some ⟨bl2, 0, none⟩), .pointer (some ⟨bq2, 0, none⟩)]) rfl trivial (enters_of Tryd.func52 (by kernel_rfl) rfl)
      hit (fun h k => h.trans k) (fun W l o o' _ ho hc _ => KeepL.put W l o o' ho hc) (Below.refl _ _) (fun x W args hx => by obtain ⟨V, rfl, _⟩ := hx; rfl)
      (fun j X => j ≤ T + 1 ∧ J (2 + T + j) X ∧ ST b5 B l bg bp bi b4 k A1 A2 A3 A n1 c1 n2 c2 n3 c3 n c (b : Int) wk m f fi X ∧ Blk X b8 3 #[.int .i64 ((2 + T : Nat) : Int)] ∧ X.heap[D]? = some (.deferred (some [])))
      (fun c j X => c = .ret ∧ (∃ q, Jx q X) ∧ X.heap[D]? = some (.deferred (some []))) ?hI ?hIx ⟨by omega, by rw [show 2 + T + 0 = 1 + (T + 1) by omega]; exact J4, hS4, q84, D4⟩
      (fun x a' j X => (j ≤ T + 1 ∧ J (2 + T + j) X ∧ ST b5 B l bg bp bi b4 k A1 A2 A3 A n1 c1 n2 c2 n3 c3 n c (b : Int) wk m f fi X ∧ Blk X b8 3 #[.int .i64 ((2 + T : Nat) : Int)] ∧ X.heap[D]? = some (.deferred (some []))) ∧ ∃ V, Grid X Bs V x.2 ∧ a' = { tmps := #[.func (.yield l) #[] #[], .pointer (some ⟨bg, 0, none⟩), .pointer (some ⟨bp, 0, none⟩), .pointer (some ⟨bi, 0, none⟩), .pointer (some ⟨b4, 0, none⟩), .pointer (some ⟨b5, 0, none⟩), undef, undef, .pointer (some ⟨b8, 0, none⟩), .int .i64 (x.1 : Int), V, .func (.yield l) #[] #[], .bool true, .bool false, .agg #[.int .i64 (k : Int), .slice A1 n1 c1, .slice A2 n2 c2, .slice A3 n3 c3], .agg #[.int .i64 (n : Int), .int .i64 (k : Int), .int .i64 (b : Int), .int .i64 wk], .slice A n c, .slice A0 M c0, .func (.func 52) #[] #[.pointer (some ⟨bl, 0, none⟩), .pointer (some ⟨bq, 0, none⟩)], undef, undef, undef, undef, undef, undef, undef, undef, undef, .slice A5 M c5, .int .i64 (M : Int), .int .i64 (T : Int), .int .i64 ((2 + T : Nat) : Int), .agg #[.int .i64 (k : Int), .slice A1 n1 c1, .slice A2 n2 c2, .slice A3 n3 c3], .slice A5 M c5, .slice A6 M c6, .func (.func 52) #[] #[.pointer (some ⟨bl2, 0, none⟩), .pointer (some ⟨bq2, 0, none⟩)], .int .i64 (x.1 : Int), V, undef, undef, undef, undef, undef, undef, undef], defers := [] }) ?hIb ?assign ?body ?done ?stop
    case hI =>
      rintro j X X' row ⟨hj, hj1, hS, q, hD4⟩ hg hr
      exact ⟨hj, hJ _ X X' row hj1 hg (fun r e => ⟨by have := (hr r e).1; omega, (hr r e).2⟩), hS.far hg (fun r e => by have := (hr r e).1; omega), q.grown hg (fun e => by have := (hr _ e.symm).1; omega), (hg.block D (Array.getElem?_eq_some_iff.1 hD4).1 (fun e => by have := (hr _ e.symm).1; omega)).trans hD4⟩
    case hIx =>
      rintro cc j X X' row ⟨hc, ⟨q, hq⟩, hD4⟩ hg hr
      exact ⟨hc, ⟨q, hJx _ X X' row hq hg (fun r e => ⟨by have := (hr r e).1; omega, (hr r e).2⟩)⟩, (hg.block D (Array.getElem?_eq_some_iff.1 hD4).1 (fun e => by have := (hr _ e.symm).1; omega)).trans hD4⟩
    case hIb =>
      rintro x a' j X X' row ⟨⟨hj, hj1, hS, q, hD4⟩, V2, hG, h3⟩ hg hr
      have hr' : ∀ r, row = some r → u6.heap.size ≤ r ∧ NoL TL X r := fun r e => by
        obtain ⟨h1, o, ho, hc⟩ := hr r e
        exact ⟨h1, nol_off ho hc⟩
      exact ⟨⟨hj, hJ _ X X' row hj1 hg (fun r e => ⟨by have := (hr' r e).1; omega, (hr' r e).2⟩), hS.far hg (fun r e => by have := (hr' r e).1; omega), q.grown hg (fun e => by have := (hr' _ e.symm).1; omega), (hg.block D (Array.getElem?_eq_some_iff.1 hD4).1 (fun e => by have := (hr' _ e.symm).1; omega)).trans hD4⟩, V2, hG.far hg (fun r e => (hr' r e).2), h3⟩
    case assign =>
      rintro l' j x args X K hI hat ⟨V2, rfl, hG⟩ hsz hK
      simp only [Held.zip_two, List.setIfInBounds_toArray, List.set_cons_zero, List.set_cons_succ]
      gi_wp2_with fail
      exact hK _ _ (KeepsFrom.refl _ _) (KeepL.refl _ _) ⟨hI, V2, hG, rfl⟩
    case body =>
      rintro l' j x a' X hl' hrec ⟨⟨hj, Jj, hS, q8, hD4⟩, V, hG, rfl⟩ hat hsz
      obtain ⟨hjT, rfl⟩ : j ≤ T ∧ x = (j, behB false M fb j) := by
        unfold atR at hat
        split at hat
        · injection hat with hat
          exact ⟨by assumption, hat.symm⟩
        · cases hat
      dsimp only at hG ⊢
      have hadd : IntKind.i64.wrap (((2 + T : Nat) : Int) + (j : Int)) = ((2 + T : Nat) : Int) + (j : Int) := by rw [IntKind.wrap_i64]; omega
      have hadd2 : IntKind.i64.wrap (2 + (T : Int) + (j : Int)) = 2 + (T : Int) + (j : Int) := by rw [IntKind.wrap_i64]; omega
      have c4 := hS.y.cell (i := 0) rfl
      have c8 := q8.cell (i := 0) rfl
      have c8 : X.cell? ⟨b8, 0, none⟩ = some (.int .i64 (2 + (T : Int))) := c8
      obtain ⟨fn, tmps, assign, body, hy, hR⟩ := HY.out (2 + T + j) V X (by omega) Jj (by rw [HS2.out j]; exact hG) (by omega)
      have hy : (Instr.yield l #[.int .i64 (2 + (T : Int) + (j : Int)), V]).run Tryd.prog X = .ok (.round l fn tmps assign body) X := hy
      gi_wp2_with fail
      first | refine (round_wide (r := some l') hR).mono ?_ | (refine ⟨fun h => (by cases h), ?_⟩; refine (round_wide (r := some l') hR).mono ?_)
      rintro e X2 ⟨kf, (⟨rfl, J2, k2⟩ | ⟨rfl, x2⟩)⟩
      · have kf2 : KeepsFrom u6.heap.size X X2 := ⟨kf.size, fun i o hB h h' => kf.same i o (by omega) h h'⟩
        have hS2 := hS.keep k2 s4 sg sp si sB sT
        have q82 := k2.blk q8 (sZ _ (by omega))
        have D5 := kf.same D _ (by omega) hD4 rfl
        clear hR hy
        gi_wp2_with fail
        exact ⟨kf2, k2, by omega, J2, hS2, q82, D5⟩
      · have kf2 : KeepsFrom u6.heap.size X X2 := ⟨kf.size, fun i o hB h h' => kf.same i o (by omega) h h'⟩
        have D5 := kf.same D _ (by omega) hD4 rfl
        gi_wp2_with fail
        exact ⟨kf2, rfl, ⟨_, x2⟩, D5⟩
    case stop =>
      rintro D' cc j X hD' ⟨rfl, ⟨q, hq⟩, hD4⟩ hDh'
      have hne : D ≠ D' := by omega
      have hD5 : (X.putObj D' (.deferred none)).heap[D]? = some (.deferred (some [])) := (World.putObj_heap_other hne).trans hD4
      gi_wp2_with fail
      refine ⟨by simp, .inl ⟨_, _, rfl, run_takeDeferred hDh', ?_⟩⟩
      refine ⟨by simp, .inl ⟨_, _, rfl, run_takeDeferred hD5, ?_⟩⟩
      exact ⟨_, results_none rfl _ _ _, ⟨_, rfl⟩, .inr ⟨q, hJx.put _ (hJx.put _ hq (by omega) hDh' rfl) (by omega) hD5 rfl⟩⟩
    case done =>
      rintro D' j X hD' hat ⟨hj, Jj, hS, q8, hD4⟩ hDh'
      obtain rfl : j = T + 1 := by
        unfold atR at hat
        split at hat
        · cases hat
        · omega
      have hne : D ≠ D' := by omega
      have hD5 : (X.putObj D' (.deferred none)).heap[D]? = some (.deferred (some [])) := (World.putObj_heap_other hne).trans hD4
      gi_wp2_with fail
      refine ⟨by simp, .inl ⟨_, _, rfl, run_takeDeferred hDh', ?_⟩⟩
      refine ⟨by simp, .inl ⟨_, _, rfl, run_takeDeferred hD5, ?_⟩⟩
      exact ⟨_, results_none rfl _ _ _, ⟨_, rfl⟩, .inl ⟨_, HNO.out (2 + T + (T + 1)) (by omega), hJ.put _ (hJ.put _ Jj (by omega) hDh' rfl) (by omega) hD5 rfl⟩⟩
end Go.Proofs.YtlinmcgmkpkpaaaDoor.Pi
namespace Go.Proofs.YtlinmcgmkpkpaaaDoor.Pi
open Go.RowKit Go.Shelf Mem Held Go.Proofs.YtlinmcgmkpkpaaaDoor.Range Ct Rc Rs Sl Vm Sp Mg
attribute [local go_sem] Oper.semAt_some
attribute [local irreducible] wpList wpListIn Calls
set_option maxRecDepth 100000 in
set_option maxHeartbeats 8000000 in
theorem stage_ok (B k b S T nn : Nat) (wk : Int) (A1 A2 A3 A : Option Addr) (n1 c1 n2 c2 n3 c3 n c : Nat) (m f fi : List O) (ps : List (Int × Int)) (w : World)
    (h1 : Lst kO w B A1 n1 m) (h2 : Lst kO w B A2 n2 f) (h3 : Lst kO w B A3 n3 fi) (hp : Lst kP w B A n ps) (hB : B ≤ w.heap.size) (hC : checkB (k : Int) m f fi = true) (hR : rightB (n : Int) (k : Int) (b : Int) wk = true) (hM : allI (n : Int) (k : Int) (b : Int) = ((2 ^ S : Nat) : Int)) (hS : S ≤ 5) (hTS : Bi.tri S = T) (hL : n * k < 2 ^ S * b) (hT : Bi.TzT w) (hnn : nn ≤ 2 + 2 * T) :
    Calls Tryd.prog 15 #[.agg #[.int .i64 (k : Int), .slice A1 n1 c1, .slice A2 n2 c2, .slice A3 n3 c3], .agg #[.int .i64 (n : Int), .int .i64 (k : Int), .int .i64 (b : Int), .int .i64 wk], .slice A n c, .int .i64 (nn : Int)] w fun e w' => ∃ V, e = .returned (.tuple #[V, .int .i64 0]) ∧ Grid w' w.heap.size V (stgB (k : Int) m f fi ps b (2 ^ S) T nn) ∧ Below w.heap.size w w' := by
  have HRF := Lib.hid (fun (X : World) (h1 : Lst kO X B A1 n1 m) (h2 : Lst kO X B A2 n2 f) (h3 : Lst kO X B A3 n3 fi) (hB : B ≤ X.heap.size) => refusal_ok B k (b : Int) wk A1 A2 A3 A n1 c1 n2 c2 n3 c3 n c m f fi X h1 h2 h3 hB hC hR)
  have hstg : Bi.stg (allI (n : Int) (k : Int) (b : Int)) = S := by rw [hM, ← Bi.two_nat]; exact Bi.stg_pow (by omega)
  have HLA := Lib.hid (fun (X : World) (hT : Bi.TzT X) => last_ok (n : Int) (k : Int) (b : Int) wk T X hR hT (by rw [hstg, hTS]))
  have HSG := Lib.hid (fun (N bg bp bi : Nat) (Sx : Nat → Prop) (X : World) (hN : 1 ≤ N) (qg : Blk X bg 26 #[.int .i64 (k : Int), .slice A1 n1 c1, .slice A2 n2 c2, .slice A3 n3 c3]) (qp : Blk X bp 28 #[.int .i64 (n : Int), .int .i64 (k : Int), .int .i64 (b : Int), .int .i64 wk]) (qi : Blk X bi 29 #[.slice A n c]) (h1 : Lst kO X B A1 n1 m) (h2 : Lst kO X B A2 n2 f) (h3 : Lst kO X B A3 n3 fi) (hp : Lst kP X B A n ps) (hB : B ≤ X.heap.size) (hT : Bi.TzT X) (hBs : w.heap.size ≤ X.heap.size) sg sp si sB sT sZ => stages_g N bg bp bi w.heap.size B k b S T wk Sx A1 A2 A3 A n1 c1 n2 c2 n3 c3 n c m f fi ps X hN qg qp qi h1 h2 h3 hp hB hC hR hM hS hTS hL hT hBs sg sp si sB sT sZ)
  have HAT := Lib.hid (fun (j : Nat) (x : Nat × List (List R)) (h : atS (k : Int) m f fi ps b (2 ^ S) T j = some x) => show x = (j, stgB (k : Int) m f fi ps b (2 ^ S) T j) from by
    unfold atS at h
    split at h
    · injection h with h; exact h.symm
    · cases h)
  have HNO := Lib.hid (fun (j : Nat) (h : atS (k : Int) m f fi ps b (2 ^ S) T j = none) => show 2 + 2 * T < j from by
    unfold atS at h
    split at h
    · cases h
    · omega)
  have hT136 : T ≤ 136 := by rw [← hTS]; exact Bi.tri_le (by omega)
  generalize atS (k : Int) m f fi ps b (2 ^ S) T = at_ at *
  generalize stgB (k : Int) m f fi ps b (2 ^ S) T = sg_ at *
  have hTw := hT.lt
  clear hC hR hM hS hTS hL hstg
  refine (callsIn_wide (n := 3)).1 ?_
  refine callsIn_of_wp_marks Tryd.func15 rfl trivial ?_ rfl
  simp only [Tryd.ntmps15, List.size_toArray, List.length_cons, List.length_nil, Nat.reduceAdd, Nat.reduceSub, Array.replicate_succ, Array.replicate_zero, List.push_toArray, List.append_toArray, List.nil_append, List.cons_append]
  refine wpIn_wide.2 ?_
  go_wp2_with (first
    | (refine wpList_box_blk (w := w) rfl 26 _ rfl #[.int .i64 (k : Int), .slice A1 n1 c1, .slice A2 n2 c2, .slice A3 n3 c3] rfl ?_; intro u1 qa g1 z1)
    | (refine wpList_box_blk (w := u1) rfl 28 _ rfl #[.int .i64 (n : Int), .int .i64 (k : Int), .int .i64 (b : Int), .int .i64 wk] rfl ?_; intro u2 qb g2 z2; have qa := qa.grown g2 (by simp))
    | (refine Held.wpList_box_cell (w := u2) rfl 3 _ rfl (.int .i64 (nn : Int)) rfl rfl ?_; intro u3 qc g3 z3; have qa := qa.grown g3 (by simp); have qb := qb.grown g3 (by simp))
    | (refine wpList_load_blk (w := u3) rfl 26 _ rfl w.heap.size 4 rfl 26 _ qa _ Tryd.underlying26 rfl info_prog rfl ?_)
    | (refine wpList_load_blk (w := u3) rfl 28 _ rfl u1.heap.size 4 rfl 28 _ qb _ Tryd.underlying28 rfl size_params rfl ?_))
  have qc : Blk u3 u2.heap.size 3 #[.int .i64 (nn : Int)] := qc
  have b3 : Below w.heap.size w u3 := (((Below.refl _ w).grown g1 (Nat.le_refl _) (by simp)).grown g2 g1.size (by simp)).grown g3 (Nat.le_trans g1.size g2.size) (by simp)
  have l5 : w.heap.size ≤ u1.heap.size := g1.size
  have l7 : w.heap.size ≤ u2.heap.size := Nat.le_trans g1.size g2.size
  clear g1 g2 g3 z1 z2 z3
  generalize u1.heap.size = b5 at *
  generalize u2.heap.size = b7 at *
  refine (HRF.out u3 (h1.below (b3.mono hB)) (h2.below (b3.mono hB)) (h3.below (b3.mono hB)) (Nat.le_trans hB b3.size)).mono ?_
  rintro e u4 ⟨rfl, b4⟩
  have qa := qa.after b4
  have qb := qb.after b4
  have qc := qc.after b4
  have b4 := b3.trans (b4.mono b3.size)
  have hT4 := hT.below b4 hTw
  clear b3 HRF
  go_wp2_with fail
  refine wp_mono (Q := fun e a' w' => e = .normal ∧ a' = { tmps := #[.agg #[.int .i64 (k : Int), .slice A1 n1 c1, .slice A2 n2 c2, .slice A3 n3 c3], .agg #[.int .i64 (n : Int), .int .i64 (k : Int), .int .i64 (b : Int), .int .i64 wk], .slice A n c, .int .i64 (nn : Int), .pointer (some ⟨w.heap.size, 0, none⟩), .pointer (some ⟨b5, 0, none⟩), undef, .pointer (some ⟨b7, 0, none⟩), .slice none 0 0, .int .i64 0, .int .i64 0, undef, undef, undef, .agg #[.int .i64 (k : Int), .slice A1 n1 c1, .slice A2 n2 c2, .slice A3 n3 c3], .agg #[.int .i64 (n : Int), .int .i64 (k : Int), .int .i64 (b : Int), .int .i64 wk], .slice A n c, .int .i64 0, .int .i64 0, .bool false, undef, .int .i64 (nn : Int), .bool false, .bool false, .int .i64 (nn : Int), .agg #[.int .i64 (n : Int), .int .i64 (k : Int), .int .i64 (b : Int), .int .i64 wk], .int .i64 ((2 + 2 * T : Nat) : Int), .bool false, .bool false, undef, undef, undef, undef, undef, undef, undef, undef, undef, undef, undef], defers := [] } ∧ Below u4.heap.size u4 w') ?_ ?_
  · refine wp_region_held (S := fun X => Below u4.heap.size u4 X) (by kernel_rfl) ?_
    change wpAnyH _ _ _ _ _ _ _ _ u4.drew
    have c0_0 := (Below.refl u4.heap.size u4).drew
    have hlt : decide ((nn : Int) < 0) = false := by simp
    have hgt : decide (((2 + 2 * T : Nat) : Int) < (nn : Int)) = false := by simp; omega
    refine Held.take (v := .int .i64 (nn : Int)) 0 (some 21) rfl rfl (by kernel_rfl) (by kernel_rfl) (by kernel_rfl) (fun _ _ _ h => by cases h.1) rfl (Held.y_load rfl rfl (by kernel_rfl) (fun W1 hW => (qc.after hW).cell (i := 0) rfl)) c0_0 ?_
    simp only [Act.put, Z1, Z2, Z3]
    refine Held.take (v := .bool false) 1 (some 22) rfl rfl (by kernel_rfl) (by kernel_rfl) (by kernel_rfl) (fun _ _ _ h => by cases h.1) rfl (Held.y_lss rfl rfl rfl hlt) c0_0 ?_
    simp only [Act.put, Z1, Z2, Z3]
    refine Held.take (v := .bool false) 2 (some 23) rfl rfl (by kernel_rfl) (by kernel_rfl) (by kernel_rfl) (fun _ _ _ h => by cases h.1) rfl (Held.y_move rfl rfl) c0_0 ?_
    simp only [Act.put, Z1, Z2, Z3]
    refine Held.take (v := .int .i64 (nn : Int)) 3 (some 24) rfl rfl (by kernel_rfl) (by kernel_rfl) (by kernel_rfl) (fun _ _ _ h => by cases h.1) rfl (Held.y_load rfl rfl (by kernel_rfl) (fun W1 hW => (qc.after hW).cell (i := 0) rfl)) c0_0 ?_
    simp only [Act.put, Z1, Z2, Z3]
    refine Held.take (v := .agg #[.int .i64 (n : Int), .int .i64 (k : Int), .int .i64 (b : Int), .int .i64 wk]) 4 (some 25) rfl rfl (by kernel_rfl) (by kernel_rfl) (by kernel_rfl) (fun _ _ _ h => by cases h.1) rfl (Held.y_load_blk (n := 4) rfl rfl Tryd.underlying28 rfl size_params rfl (fun X hX => qb.after hX)) c0_0 ?_
    simp only [Act.put, Z1, Z2, Z3]
    refine Held.one 5 (by kernel_rfl) ?_
    refine Held.op_call 5 (some 26) 20 #[.agg #[.int .i64 (n : Int), .int .i64 (k : Int), .int .i64 (b : Int), .int .i64 wk]] rfl rfl (by kernel_rfl) rfl (enters_of Tryd.func20 (by kernel_rfl) rfl) (by simp [Act.eval])
      (HLA.out u4.drew (hT4.below c0_0 hT4.lt)) ?_
    rintro e u5 ⟨rfl, d5⟩
    have c0_1 := c0_0.trans (d5.mono c0_0.size)
    refine ⟨_, rfl, c0_1, ?_⟩
    simp only [Act.put, Z1, Z2, Z3]
    refine Held.take (v := .bool false) 6 (some 27) rfl rfl (by kernel_rfl) (by kernel_rfl) (by kernel_rfl) (fun _ _ _ h => by cases h.1) rfl (Held.y_gtr rfl rfl rfl hgt) c0_1 ?_
    simp only [Act.put, Z1, Z2, Z3]
    refine Held.take (v := .bool false) 7 (some 28) rfl rfl (by kernel_rfl) (by kernel_rfl) (by kernel_rfl) (fun _ _ _ h => by cases h.1) rfl (Held.y_pickF rfl rfl rfl) c0_1 ?_
    simp only [Act.put, Z1, Z2, Z3]
    refine wpAnyH_done (by kernel_rfl) ?_ _
    exact ⟨rfl, rfl, c0_1⟩
  rintro e a' u5 ⟨rfl, rfl, c5⟩
  have qa := qa.after c5
  have qb := qb.after c5
  have qc := qc.after c5
  have b5w := b4.trans (c5.mono b4.size)
  clear c5 b4 hT4 HLA
  go_wp2_with (first
    | (refine Held.wpList_alloc_cell (w := u5) rfl 45 rfl (.slice none 0 0) (by kernel_rfl) rfl ?_; intro u6 q11 g6 z6; have qa := qa.grown g6 (by simp); have qb := qb.grown g6 (by simp))
    | (refine wpList_load_blk (w := u6) rfl 26 _ rfl w.heap.size 4 rfl 26 _ qa _ Tryd.underlying26 rfl info_prog rfl ?_)
    | (refine wpList_load_blk (w := u6) rfl 28 _ rfl b5 4 rfl 28 _ qb _ Tryd.underlying28 rfl size_params rfl ?_))
  have q11 : Blk u6 u5.heap.size 45 #[.slice none 0 0] := q11
  have h711 : b7 < u5.heap.size := qc.lt
  have qc := qc.grown g6 (by simp)
  have b6 : Below w.heap.size w u6 := b5w.grown g6 b5w.size (by simp)
  have l11 : w.heap.size ≤ u5.heap.size := b5w.size
  clear qa qb g6 z6 b5w
  generalize u5.heap.size = b11 at *
  refine (stages_any (k : Int) A1 A2 A3 A n1 c1 n2 c2 n3 c3 n c (n : Int) (k : Int) (b : Int) wk u6).mono ?_
  rintro e v ⟨bg, bp, bi, rfl, qg, qp, qi, hbg, hbp, hbi, bv⟩
  have hu11 : b11 < u6.heap.size := q11.lt
  have q11 := q11.after bv
  have qc := qc.after bv
  have l11u := q11.lt
  have lu := b6.size
  have bv := b6.trans (bv.mono b6.size)
  have hwv := bv.size
  have hit := fun N hN => HSG.out N bg bp bi (fun q => q = b11) v hN qg qp qi (h1.below (bv.mono hB)) (h2.below (bv.mono hB)) (h3.below (bv.mono hB)) (hp.below (bv.mono hB)) (Nat.le_trans hB bv.size) (hT.below bv hTw) bv.size (by omega) (by omega) (by omega) (fun q hq e => by omega) (by omega) (fun q hq e => by omega)
  clear qg qp qi HSG
  go_wp2_with fail
  refine (wpIn_wide (n := 3)).1 ?_
  have n45 : ¬ TL 45 := by unfold TL; decide
  have h7v := qc.lt
  refine wpIn_rangeFunc_g rfl (by omega) (gf := 43) (lb := #[.pointer (some ⟨bg, 0, none⟩), .pointer (some ⟨bp, 0, none⟩), .pointer (some ⟨bi, 0, none⟩)]) rfl trivial (enters_of Tryd.func43 (by kernel_rfl) rfl)
    (hit _ (by omega)) (fun h k => h.trans k) (fun W l o o' _ ho hc _ => KeepL.put W l o o' ho hc) (Below.refl _ _) (fun x W args hx => by obtain ⟨V, rfl, _⟩ := hx; rfl)
    (fun j X => j ≤ nn ∧ Blk X b7 3 #[.int .i64 (nn : Int)] ∧ (∃ V, Blk X b11 45 #[V]) ∧ Below w.heap.size w X)
    (fun cd j X => cd = .exit 0 ∧ ∃ V, Blk X b11 45 #[V] ∧ Grid X w.heap.size V (sg_ nn) ∧ Below w.heap.size w X) ?hI ?hIx ⟨by omega, qc, ⟨_, q11⟩, bv⟩
    (fun x a' j X => (j ≤ nn ∧ Blk X b7 3 #[.int .i64 (nn : Int)] ∧ (∃ V, Blk X b11 45 #[V]) ∧ Below w.heap.size w X) ∧ ∃ V, Grid X w.heap.size V x.2 ∧ a' = { tmps := #[.agg #[.int .i64 (k : Int), .slice A1 n1 c1, .slice A2 n2 c2, .slice A3 n3 c3], .agg #[.int .i64 (n : Int), .int .i64 (k : Int), .int .i64 (b : Int), .int .i64 wk], .slice A n c, .int .i64 (nn : Int), .pointer (some ⟨w.heap.size, 0, none⟩), .pointer (some ⟨b5, 0, none⟩), undef, .pointer (some ⟨b7, 0, none⟩), .slice none 0 0, .int .i64 0, .int .i64 0, .pointer (some ⟨b11, 0, none⟩), .int .i64 (x.1 : Int), V, .agg #[.int .i64 (k : Int), .slice A1 n1 c1, .slice A2 n2 c2, .slice A3 n3 c3], .agg #[.int .i64 (n : Int), .int .i64 (k : Int), .int .i64 (b : Int), .int .i64 wk], .slice A n c, .int .i64 0, .int .i64 0, .bool false, undef, .int .i64 (nn : Int), .bool false, .bool false, .int .i64 (nn : Int), .agg #[.int .i64 (n : Int), .int .i64 (k : Int), .int .i64 (b : Int), .int .i64 wk], .int .i64 (2 + 2 * (T : Int)), .bool false, .bool false, .agg #[.int .i64 (k : Int), .slice A1 n1 c1, .slice A2 n2 c2, .slice A3 n3 c3], .agg #[.int .i64 (n : Int), .int .i64 (k : Int), .int .i64 (b : Int), .int .i64 wk], .slice A n c, .func (.func 43) #[] #[.pointer (some ⟨bg, 0, none⟩), .pointer (some ⟨bp, 0, none⟩), .pointer (some ⟨bi, 0, none⟩)], .int .i64 (x.1 : Int), V, undef, undef, undef, undef, undef], defers := [] }) ?hIb ?assign ?body ?done ?stop
  case hI =>
    rintro j X X' row ⟨hj, h7, ⟨V, h11⟩, hb⟩ hg hr
    exact ⟨hj, h7.grown hg (fun e => by have := (hr _ e.symm).1; omega), ⟨V, h11.grown hg (fun e => by have := (hr _ e.symm).1; omega)⟩, hb.grown hg hb.size (fun r e => by have := (hr r e).1; omega)⟩
  case hIx =>
    rintro cd j X X' row ⟨hc, V, h11, hG, hb⟩ hg hr
    exact ⟨hc, V, h11.grown hg (fun e => by have := (hr _ e.symm).1; omega), hG.far hg (fun r e => (hr r e).2), hb.grown hg hb.size (fun r e => by have := (hr r e).1; omega)⟩
  case hIb =>
    rintro x a' j X X' row ⟨⟨hj, h7, ⟨V, h11⟩, hb⟩, V2, hG, h3⟩ hg hr
    have hr' : ∀ r, row = some r → v.heap.size ≤ r ∧ NoL TL X r := fun r e => by
      obtain ⟨h1, o, ho, hc⟩ := hr r e
      exact ⟨h1, nol_off ho hc⟩
    exact ⟨⟨hj, h7.grown hg (fun e => by have := (hr' _ e.symm).1; omega), ⟨V, h11.grown hg (fun e => by have := (hr' _ e.symm).1; omega)⟩, hb.grown hg hb.size (fun r e => by have := (hr' r e).1; omega)⟩, V2, hG.far hg (fun r e => (hr' r e).2), h3⟩
  case assign =>
    rintro l' j x args X K hI hat ⟨V2, rfl, hG⟩ hsz hK
    simp only [Held.zip_two, List.setIfInBounds_toArray, List.set_cons_zero, List.set_cons_succ]
    gi_wp2_with fail
    exact hK _ _ (KeepsFrom.refl _ _) (KeepL.refl _ _) ⟨hI, V2, hG, rfl⟩
  case body =>
    rintro l' j x a' X hl' hrec ⟨⟨hj, q7, ⟨V0, q11⟩, hb⟩, V, hG, rfl⟩ hat hsz
    obtain rfl := HAT.out j x hat
    dsimp only at hG ⊢
    obtain ⟨A7, n7, c7, rfl, _⟩ := hG.form
    have no11 : NoL TL X b11 := nol_of q11 n45
    by_cases hjn : j = nn
    · subst hjn
      gi_wp2_with (refine Held.wpListIn_one (r := some l') rfl (by intro c e; cases e) ?_; refine Held.wpList_store_box (w := X) rfl 45 _ _ rfl b11 rfl _ _ (.slice A7 n7 c7) rfl q11 (by kernel_rfl) rfl rfl ?_; intro X1 q51 g51; have q51 : Blk X1 b11 45 #[.slice A7 n7 c7] := q51; have q71 := q7.grown g51 (by intro e; injection e with e; omega); have c71 := q71.cell (i := 0) rfl; refine wpList_nil ⟨rfl, ?_⟩)
      exact ⟨KeepsFrom.of_grownBy g51 (fun r e => by cases e; omega), rfl, _, q51, hG.far g51 (fun r e => by cases e; exact no11), hb.grown g51 hb.size (fun r e => by cases e; exact l11)⟩
    · have hne : ¬ (j : Int) = (nn : Int) := by omega
      have hdec : decide ((j : Int) = (nn : Int)) = false := by simp; omega
      gi_wp2_with (refine Held.wpListIn_one (r := some l') rfl (by intro c e; cases e) ?_; refine Held.wpList_store_box (w := X) rfl 45 _ _ rfl b11 rfl _ _ (.slice A7 n7 c7) rfl q11 (by kernel_rfl) rfl rfl ?_; intro X1 q51 g51; have q51 : Blk X1 b11 45 #[.slice A7 n7 c7] := q51; have q71 := q7.grown g51 (by intro e; injection e with e; omega); have c71 := q71.cell (i := 0) rfl; refine wpList_nil ⟨rfl, ?_⟩)
      exact ⟨KeepsFrom.of_grownBy g51 (fun r e => by cases e; omega), KeepL.of_grown g51 (fun r e => by cases e; exact ⟨rfl, no11⟩), by omega, q71, ⟨_, q51⟩, hb.grown g51 hb.size (fun r e => by cases e; exact l11)⟩
  case done =>
    rintro D j X hD hat ⟨hj, _⟩ _
    have := HNO.out j hat
    omega
  case stop =>
    rintro D cd j X hD ⟨rfl, V, q11, hG, hb⟩ hDh
    have c11 := q11.cell (i := 0) rfl
    refine wpIn_wide.2 ?_
    go_wp2_with fail
    refine ⟨by simp, .inl ⟨_, _, rfl, run_takeDeferred hDh, ?_⟩⟩
    have gp := grownBy_putObj' X D (.deferred none)
    exact ⟨_, results_tmp2 rfl _ _ _, V, rfl, hG.far gp (fun r e => by cases e; exact nol_off hDh rfl), hb.grown gp hb.size (fun r e => by cases e; omega)⟩
end Go.Proofs.YtlinmcgmkpkpaaaDoor.Pi
namespace Go.Proofs.YtlinmcgmkpkpaaaDoor.Pi
open Go.RowKit Go.Shelf Mem Held Go.Proofs.YtlinmcgmkpkpaaaDoor.Range Ct Rc Rs Sl Vm Mg
attribute [local go_sem] Oper.semAt_some
attribute [local irreducible] wpList wpListIn Calls
theorem flat_len {z : Nat} {bs : List (List R)} (h : ∀ x ∈ bs, x.length = z) : ∀ i, i ≤ bs.length → (bs.take i).flatten.length = i * z
  | 0, _ => by simp
  | i + 1, hi => by
    rw [take_snoc (by omega), List.flatten_append, List.length_append, flat_len h i (by omega), Nat.succ_mul]
    simp only [List.flatten_cons, List.flatten_nil, List.append_nil]
    rw [h _ (blk_mem (by omega))]
theorem flat_next {bs : List (List R)} {i : Nat} (hi : i < bs.length) : (bs.take (i + 1)).flatten = (bs.take i).flatten ++ blk bs i := by
  rw [take_snoc hi, List.flatten_append]
  simp
set_option maxRecDepth 100000 in
set_option maxHeartbeats 8000000 in
theorem concat_grid (Bs z : Nat) (A : Option Addr) (n c : Nat) (bs : List (List R)) (w : World) (hG : Grid w Bs (.slice A n c) bs) (hz : ∀ x ∈ bs, x.length = z) (hz8 : z ≤ 8) (hn1 : 1 ≤ n) (hn32 : n ≤ 32) (hwf : Wf bs) :
    Calls Tryd.prog 21 #[.slice A n c] w fun e w' => ∃ v, e = .returned v ∧ OwnL kRec 51 w' w.heap.size v bs.flatten ∧ Below w.heap.size w w' := by
  obtain ⟨vs0, o0, t0⟩ := hG
  obtain ⟨A', n', c', e1, hn', _⟩ := OwnL.form2 o0
  injection e1 with e1 e2 e3
  subst e1
  subst e2
  subst e3
  have HNL : vs0.length = n := hn'.out
  have HBL := Lib.hid (show bs.length = n by rw [← t0.1, HNL])
  have HZ := Lib.hid hz
  have HWF := Lib.hid hwf
  have HFL := Lib.hid (fun i (hi : i ≤ n) => flat_len hz i (by rw [HBL.out]; exact hi))
  have HFN := Lib.hid (fun i (hi : i < n) => flat_next (bs := bs) (i := i) (by rw [HBL.out]; exact hi))
  have HALL := Lib.hid (show bs.take n = bs from List.take_of_length_le (by rw [HBL.out]; exact Nat.le_refl _))
  obtain ⟨g0, rfl, hg00, hg0w, _⟩ := own_at0 o0 (by omega)
  have had := fun (i : Nat) (hi : i < n) (W : World) => show (Instr.indexAt 45 (.slice (some ⟨g0, 0, none⟩) n c) (.int .i64 (i : Int))).run Tryd.prog W = .ok (.pointer (some ⟨g0, i, none⟩)) W from by
    have := run_addr_slice (P := Tryd.prog) 45 48 g0 0 n c i .i64 Tryd.underlying45 (by kernel_rfl) hi W
    rwa [Nat.zero_add] at this
  clear hz hwf hn'
  go_enter Tryd.func21, Tryd.ntmps21
  go_wp2_with fail
  go_loopw [3, 11] (fun sv iv wr => ∃ i : Nat, i ≤ n ∧ iv = .int .i64 i ∧ sv = .int .i64 ((i * z : Nat) : Int) ∧ w = wr) (fun _ i _ => n - (intOf i).toNat)
  case atStart => exact ⟨0, by omega, rfl, by simp, rfl⟩
  case round =>
    obtain ⟨i, hi, rfl, rfl, rfl⟩ := hrel
    have hiz : i * z ≤ 32 * 8 := Nat.mul_le_mul (by omega) hz8
    by_cases hlt : i < n
    · have hlt' : (i : Int) < (n : Int) := by omega
      have had1 := had i hlt
      obtain ⟨ca, hgr⟩ := slot_cell o0 hlt
      have oX : OwnL kRec 51 w Bs (slV (vs0.getD i kS.d)) (blk bs i) := t0.2 i (by omega)
      have hXl : (blk bs i).length = z := HZ.out _ (blk_mem (by rw [HBL.out]; exact hlt))
      have hXw := HWF.out.blk i
      obtain ⟨⟨Ax, nx, cx⟩, hp1⟩ : ∃ p, vs0.getD i kS.d = p := ⟨_, rfl⟩
      rw [hp1] at oX ca
      have lX := OwnL.lst (A := Ax) (n := nx) (c := cx) oX hXw
      obtain rfl : z = nx := hXl.symm.trans lX.1
      have ca2 : w.cell? ⟨g0, i, none⟩ = some (.slice Ax z cx) := ca
      have hnx : (i + 1) * z = i * z + z := Nat.succ_mul i z
      have HNX := Lib.hid hnx
      obtain ⟨p, hp⟩ : ∃ p, i * z = p := ⟨_, rfl⟩
      rw [hp] at hiz HNX ⊢
      have hadd : IntKind.i64.wrap ((p : Int) + (z : Int)) = ((p + z : Nat) : Int) := by rw [IntKind.wrap_i64]; omega
      have HAD := Lib.hid hadd
      have hlt0 : decide (((p + z : Nat) : Int) < 0) = false := by simp; omega
      clear oX hXl hXw hp1 lX hnx hp hadd ca
      go_wp2_with (first
        | (refine Held.wpList_run (w := w) rfl (v := .pointer (some ⟨g0, i, none⟩)) (Held.y_addr (S := fun _ => True) rfl rfl rfl had1 _ trivial) ?_)
        | (refine Held.wpList_run (w := w) rfl (v := .int .i64 ((p + z : Nat) : Int)) (Held.y_int (S := fun _ => True) rfl rfl rfl (Held.run_add 3 .i64 HAD.out) _ trivial) ?_)
        | (refine Held.wpList_run (w := w) rfl (v := .bool false) (Held.y_lss (S := fun _ => True) rfl rfl rfl hlt0 _ trivial) ?_))
      go_roundw
      case rel => exact ⟨i + 1, by omega, by go_num, by rw [HNX.out]; rfl, trivial⟩
      case measure => simp [intOf]; omega
    · obtain rfl : i = n := by omega
      obtain ⟨L, hL⟩ : ∃ L, i * z = L := ⟨_, rfl⟩
      rw [hL] at hiz ⊢
      go_wp2_with fail
      refine (grow_any L w (by omega)).mono ?_
      rintro e w1 ⟨v, rfl, o1, b1⟩
      go_wp2_with fail
      go_loopw [6, 27] (fun va iv w2 => ∃ j : Nat, j ≤ i ∧ iv = .int .i64 j ∧ OwnL kRec 51 w2 w.heap.size va (bs.take j).flatten ∧ Below w.heap.size w w2) (fun _ j _ => i - (intOf j).toNat)
      case atStart => exact ⟨0, by omega, rfl, by simpa using o1, b1⟩
      case round =>
        clear o1 b1
        obtain ⟨j, hj, rfl, ho, hst⟩ := hrel
        have HF0 := Lib.hid (HFL.out j hj)
        have hjz : j * z ≤ 32 * 8 := Nat.mul_le_mul (by omega) hz8
        by_cases hlt : j < i
        · have hlt' : (j : Int) < (i : Int) := by omega
          have had1 := had j hlt
          have HF1 := Lib.hid (HFN.out j hlt)
          have o0W := OwnL.below o0 hst
          have t0W := t0.below hst
          obtain ⟨ca, hgr⟩ := slot_cell o0W hlt
          have oX : OwnL kRec 51 wr Bs (slV (vs0.getD j kS.d)) (blk bs j) := t0W.2 j (by omega)
          have hXl : (blk bs j).length = z := HZ.out _ (blk_mem (by rw [HBL.out]; exact hlt))
          have hXw := HWF.out.blk j
          obtain ⟨⟨Ax, nx, cx⟩, hp1⟩ : ∃ p, vs0.getD j kS.d = p := ⟨_, rfl⟩
          rw [hp1] at oX ca
          have lX := OwnL.lst (A := Ax) (n := nx) (c := cx) oX hXw
          obtain rfl : z = nx := hXl.symm.trans lX.1
          have ca2 : wr.cell? ⟨g0, j, none⟩ = some (.slice Ax z cx) := ca
          have hbz := hst.size
          clear oX hXl hXw hp1 o0W t0W ca
          go_wp2_with (first
            | (refine Held.wpList_run (w := wr) rfl (v := .pointer (some ⟨g0, j, none⟩)) (Held.y_addr (S := fun _ => True) rfl rfl rfl had1 _ trivial) ?_)
            | (at_builtin; refine wpList_append_all (k := kRec) (w := wr) rfl _ _ 48 51 rfl Tryd.underlying48 _ 32 info_kRec rfl w.heap.size wr.heap.size z cx Ax u6 _ (blk bs j) rfl rfl ho lX (by rw [HF0.out]; omega) (by omega) hbz ?_; intro v2 w2 o2 g2 m2))
          rw [← HF1.out] at o2
          have b2 : Below w.heap.size w w2 := hst.grown g2 hbz (fun r e => (OwnL.lt ho r e).1)
          go_roundw
          case rel => exact ⟨j + 1, by omega, by go_num, o2, b2⟩
          case measure => simp [intOf]; omega
        · obtain rfl : j = i := by omega
          rw [HALL.out] at ho
          go_wp2_with fail
          go_ret
          exact ⟨_, rfl, ho, hst⟩
end Go.Proofs.YtlinmcgmkpkpaaaDoor.Pi
