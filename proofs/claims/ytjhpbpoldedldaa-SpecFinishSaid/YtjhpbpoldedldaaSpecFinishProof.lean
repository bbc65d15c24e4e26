/-
  The law SpecFinish of package dominolaw12 returns true for every list of pairs: a finish is done once to the value of each key, with the key.
-/
import Derived.Test.YtjhpbpoldedldaaRows
import Derived.WalkKit
import Derived.ProofKit
import Derived.OpenShut
import Derived.ShutString
import Derived.ChangeOld
import Derived.Below
import Derived.Test.YtjhpbpoldedldaaB8
namespace Go.Proofs.Ytjhpbpoldedldaa.specFinish
open Go.ChangeShapes Go.WideShapes Go.ChangeAt Go.RowKit
open Go.ChangeMaps (open_string shut_string)
open Go.Shelf Go.Proofs.Ytjhpbpoldedldaa Mem Held Rc Rs Sl Vm Sp
theorem own : ownKnob Try.prog.godebug = none := by kernel_rfl
theorem laidOut : laidOutB Try.prog = true := by kernel_rfl
attribute [local irreducible] wpList Calls
theorem check1 : checkB 1 (sumsM 1) sumsF [] = true := by decide +kernel
theorem check2 : checkB 1 (sumsM 1) sumsF sumsF = true := by decide +kernel
def addKey (p : Int × Int) : Int × Int := (p.1, wrap64 (p.2 + p.1))
theorem finish_same (ps : List (Int × Int)) : runP 1 (sumsM 1) sumsF sumsF ps = (runP 1 (sumsM 1) sumsF [] ps).map addKey := by
  have e1 : foldV 1 (sumsM 1) sumsF sumsF = foldV 1 (sumsM 1) sumsF [] := by
    funext a v
    rw [foldV, foldV, if_pos check1, if_pos check2]
  have e2 : live 1 (sumsM 1) sumsF sumsF ps = live 1 (sumsM 1) sumsF [] ps := by
    have : liveAt 1 (sumsM 1) sumsF sumsF ps = liveAt 1 (sumsM 1) sumsF [] ps := by
      funext i
      rw [liveAt, liveAt, mapR, mapR, if_pos check1, if_pos check2]
    rw [live, live, liveTo, liveTo, this]
  have e3 : finP 1 (sumsM 1) sumsF sumsF = addKey ∘ finP 1 (sumsM 1) sumsF [] := by
    funext p
    show finP 1 (sumsM 1) sumsF sumsF p = addKey (finP 1 (sumsM 1) sumsF [] p)
    simp only [finP, addKey, finishV, if_pos check1, if_pos check2]
    rfl
  rw [runP, runP, e1, e2, List.map_map, e3]
theorem runP_wf {K : Int} {m f e : List O} {ps : List (Int × Int)} (hm : ∀ o ∈ m, o.wf) (hf : ∀ o ∈ f, o.wf) (he : ∀ o ∈ e, o.wf) (hps : ∀ x ∈ ps, pwf x) (hl : ps.length ≤ 1048576) : ∀ x ∈ runP K m f e ps, pwf x := fun x hx => by
  obtain ⟨y, hy, rfl⟩ := List.mem_map.1 hx
  have h := foldP_wf (foldV_wf (K := K) (m := m) (e := e) hf) _ (live_wf (K := K) (f := f) (e := e) hm hps hl) y (sortP_mem.1 hy)
  exact ⟨h.1, finishV_wf he _ _ h.1 h.2⟩
theorem runP_length (K : Int) (m f e : List O) (ps : List (Int × Int)) : (runP K m f e ps).length ≤ 4 * ps.length := by
  rw [runP, List.length_map, sortP_length]
  exact Nat.le_trans (foldP_length _ _) (live_length _ _ _ _ _)
theorem right_of {n k : Nat} (h1 : 0 < n) (h20 : n ≤ 20) (hk1 : 1 ≤ k) (hk : (k : Int) * n < 32) (hk4 : k ≤ 4) : rightB (n : Int) (k : Int) 1 1 = true := by
  have e : ((n : Int) + 1 - 1) / 1 = n := by rw [Int.ediv_one]; omega
  unfold rightB
  rw [e]
  simp only [Bool.and_eq_true, decide_eq_true_eq]
  refine ⟨⟨⟨⟨⟨?_, ?_⟩, ?_, ?_⟩, ?_, ?_⟩, ?_, ?_⟩, ?_⟩ <;> omega
theorem map_get {xs : List (Int × Int)} {i : Nat} (hi : i < xs.length) (g : Int × Int → Int × Int) : (xs.map g).getD i (0, 0) = g (xs.getD i (0, 0)) := by
  rw [List.getD_eq_getElem?_getD, List.getElem?_map, List.getD_eq_getElem?_getD, List.getElem?_eq_getElem hi]
  rfl
set_option maxRecDepth 100000 in
set_option maxHeartbeats 16000000 in
theorem start (A : Option Addr) (n c : Nat) (ps : List (Int × Int)) (w : World) (hp : Lst kP w w.heap.size A n ps) :
    Calls Try.prog 6 #[.slice A n c] w fun e w' => e = .returned (.bool true) ∧ Below w.heap.size w w' := by
  go_enter Try.func6, Try.ntmps6
  by_cases h0 : n = 0
  · subst h0
    go_wp2_with fail
    refine (awake12_any w).mono ?_
    rintro e u2 ⟨rfl, b2⟩
    go_wp2_with fail
    go_ret
    exact ⟨rfl, b2⟩
  by_cases h20 : 20 < n
  · have h0' : ¬ (n : Int) = 0 := by omega
    have h20' : (n : Int) > 20 := by omega
    clear h0 h20
    go_wp2_with fail
    refine (awake12_any w).mono ?_
    rintro e u2 ⟨rfl, b2⟩
    go_wp2_with fail
    go_ret
    exact ⟨rfl, b2⟩
  have hn0 : 0 < n := by omega
  have hn20 : n ≤ 20 := by omega
  have h0' : ¬ (n : Int) = 0 := by omega
  have h20' : ¬ (n : Int) > 20 := by omega
  have HL := Lib.hid hp.1
  have HRA := Lib.hid (right_of (n := n) (k := 1) hn0 hn20 (by omega) (by omega) (by omega))
  have HC1 := Lib.hid check1
  have HC2 := Lib.hid check2
  have HFS := Lib.hid (finish_same ps)
  have HW := Lib.hid (runP_wf (K := 1) (m := sumsM 1) (f := sumsF) (e := []) (sumsM_wf (by omega)) sumsF_wf (by simp) hp.2.1 (by rw [hp.1]; omega))
  have HLN := Lib.hid (show (runP 1 (sumsM 1) sumsF [] ps).length ≤ 80 by have := runP_length 1 (sumsM 1) sumsF [] ps; rw [hp.1] at this; omega)
  clear h0 h20
  go_wp2_with fail
  refine (sums_any 1 (by omega) w).mono ?_
  rintro e u ⟨A1, n1, c1, A2, n2, c2, rfl, L1, L2, bu⟩
  have hpu := hp.below bu
  have hwu := bu.size
  go_wp2_with (first
    | (refine wpList_alloc_blk (w := u) rfl 30 rfl _ zero_prog ?_; intro u1 q1 g1 z1)
    | (refine wpList_store_blk (w := u1) rfl 30 _ _ rfl u.heap.size 4 rfl 30 _ #[.int .i64 1, .slice A1 n1 c1, .slice A2 n2 c2, .slice none 0 0] rfl q1 info_prog rfl rfl (by kernel_rfl) ?_; intro u2 q2 g2 z2)
    | (refine wpList_run (w := u2) rfl (v := .agg #[.int .i64 (n : Int), .int .i64 1, .int .i64 1, .int .i64 1]) (y_build (S := fun _ => True) (parts := #[_, _, _, _]) rfl (by kernel_rfl) _ trivial) ?_)
    | (refine wpList_alloc_blk (w := u2) rfl 33 rfl _ (show (Try.prog.info? 33).bind (·.zero) = some (.agg #[.int .i64 0, .int .i64 0, .int .i64 0, .int .i64 0]) by kernel_rfl) ?_; intro u3 q3 g3 z3)
    | (refine wpList_store_blk (w := u3) rfl 33 _ _ rfl u2.heap.size 4 rfl 33 _ #[.int .i64 (n : Int), .int .i64 1, .int .i64 1, .int .i64 1] rfl q3 size_params rfl rfl (by kernel_rfl) ?_; intro u4 q4 g4 z4; have hu12 : u.heap.size < u2.heap.size := q2.lt; have q2' := (q2.grown g3 (by simp)).grown g4 (by intro e; injection e with e; omega); have b4 : Below u.heap.size u u4 := ((((Below.refl _ u).grown g1 (Nat.le_refl _) (by simp)).grown g2 g1.size (fun r e => by cases e; exact Nat.le_refl _)).grown g3 (by omega) (by simp)).grown g4 (by have := g3.size; omega) (fun r e => by cases e; omega))
    | (refine wpList_load_blk (w := u4) rfl 30 _ rfl u.heap.size 4 rfl 30 _ q2' _ Try.underlying30 rfl info_prog rfl ?_)
    | (refine wpList_load_blk (w := u4) rfl 33 _ rfl u2.heap.size 4 rfl 33 _ q4 _ Try.underlying33 rfl size_params rfl ?_))
  have hp4 := (hpu.below (b4.mono hwu)).more (Nat.le_trans hwu b4.size)
  refine (run_ok u4.heap.size 1 1 1 A1 A2 none A n1 c1 n2 c2 0 0 n c (sumsM 1) sumsF [] ps u4 ((L1.below b4).more b4.size) ((L2.below b4).more b4.size) (Lst.nil _ _ _ _) hp4 (Nat.le_refl _) HC1.out HRA.out).mono ?_
  rintro e u5 ⟨Aa, na, ca, rfl, oa, b5⟩
  have q2 := q2'.after b5
  have hq44 := q4.lt
  have q4 := q4.after b5
  have b45 := b4.trans (b5.mono b4.size)
  clear q1 q3 q2' g1 g2 g3 g4 z1 z2 z3 z4 hp4
  go_wp2_with (first
    | (refine wpList_build_blk (w := u5) rfl 41 _ rfl #[.int .i64 2, .int .i64 0, .int .i64 0, .int .i64 1, .int .i64 0, .int .i64 0] (by kernel_rfl) ?_)
    | (refine wpList_build_lst (w := u5) (k := kO) rfl 28 41 1 _ rfl Try.underlying28 _ 48 info_op rfl sumsF rfl (by kernel_rfl) (by omega) (by decide) ?_; intro u6 q6 g6 z6; have q26 := q2.grown g6 (by simp))
    | (refine wpList_run (w := u6) rfl (v := .pointer (some ⟨u.heap.size, 3, none⟩)) (Held.y_field (S := fun _ => True) (k := 3) (s := 0) rfl rfl Try.underlying30 rfl (by kernel_rfl) rfl _ trivial) ?_)
    | (refine wpList_store_field (w := u6) rfl 28 _ _ rfl u.heap.size 3 rfl 30 _ (.slice (some ⟨u5.heap.size, 0, none⟩) 1 1) rfl q26 (by simp) (by kernel_rfl) rfl rfl ?_; intro u7 q7 g7 z7; have q7 : Blk u7 u.heap.size 30 #[.int .i64 1, .slice A1 n1 c1, .slice A2 n2 c2, .slice (some ⟨u5.heap.size, 0, none⟩) 1 1] := q7; have q47 := (q4.grown g6 (by simp)).grown g7 (by intro e; injection e with e; omega))
    | (refine wpList_load_blk (w := u7) rfl 30 _ rfl u.heap.size 4 rfl 30 _ q7 _ Try.underlying30 rfl info_prog rfl ?_)
    | (refine wpList_load_blk (w := u7) rfl 33 _ rfl u2.heap.size 4 rfl 33 _ q47 _ Try.underlying33 rfl size_params rfl ?_))
  have hs5 := b45.size
  have hs6 := g6.size
  have hq4 := q4.lt
  have b7 : Below u.heap.size u u7 := (b45.grown g6 b45.size (by simp)).grown g7 (by omega) (fun r e => by cases e; exact Nat.le_refl _)
  have L3 : Lst kO u7 u7.heap.size (some ⟨u5.heap.size, 0, none⟩) 1 sumsF := lst_whole (q6.grown g7 (by intro e; injection e with e; omega)) rfl sumsF_wf
  have hq7 : ∀ b, (Value.slice Aa na ca).ownBlock = some b → b ≠ u.heap.size := fun b e => by have := (oa.lt b e).1; have := b4.size; omega
  have oa7 := (oa.kept g6 (by cases (Value.slice Aa na ca).ownBlock <;> simp)).kept g7 (by
    cases hq : (Value.slice Aa na ca).ownBlock with
    | none => exact .inl rfl
    | some b => exact .inr fun e => by injection e with e; exact hq7 b hq e)
  have LA := oa7.lst HW.out
  have hp7 := (hpu.below (b7.mono hwu)).more (Nat.le_trans hwu b7.size)
  refine (run_ok u7.heap.size 1 1 1 A1 A2 _ A n1 c1 n2 c2 1 1 n c (sumsM 1) sumsF sumsF ps u7 ((L1.below b7).more b7.size) ((L2.below b7).more b7.size) L3 hp7 (Nat.le_refl _) HC2.out HRA.out).mono ?_
  rintro e u8 ⟨Ab, nb, cb, rfl, ob, b8⟩
  have hfs : runP ((1 : Nat) : Int) (sumsM 1) sumsF sumsF ps = (runP 1 (sumsM 1) sumsF [] ps).map addKey := HFS.out
  rw [hfs] at ob
  have LA8 := (LA.below b8).more b8.size
  have hw8 : ∀ x ∈ (runP 1 (sumsM 1) sumsF [] ps).map addKey, pwf x := fun x hx => by
    obtain ⟨y, hy, rfl⟩ := List.mem_map.1 hx
    exact ⟨(HW.out y hy).1, wrap64_wf _⟩
  have LB8 := ob.lst hw8
  have LA8 : Lst kP u8 u8.heap.size Aa na (runP 1 (sumsM 1) sumsF [] ps) := LA8
  have b78 := b7.trans (b8.mono b7.size)
  have hlen80 := HLN.out
  generalize runP 1 (sumsM 1) sumsF [] ps = xs at *
  have hab : (na : Int) = (nb : Int) := by rw [← LA8.1, ← LB8.1, List.length_map]
  have hnab : na = nb := by omega
  have hna80 : na ≤ 80 := by rw [← LA8.1]; exact hlen80
  have HNA := Lib.hid LA8.1
  subst hnab
  clear hab hw8 LA oa7 oa hq7 q2 q4 q26 q6 q7 q47 g6 g7 z6 z7 L1 L2 L3 b4 b7 b8 ob hfs hpu hp7 b45 HFS HW HLN HC1 HC2 HRA HL hlen80 hs5 hs6 hq4
  go_wp2_with fail
  refine (awake12_any u8).mono ?_
  rintro e u9 ⟨rfl, b9⟩
  have LA9 := (LA8.below b9)
  have LB9 := (LB8.below b9)
  have b89 := (bu.trans (b78.mono hwu)).trans (b9.mono (Nat.le_trans hwu b78.size))
  have s89 := b9.size
  have hwu_ := b89.size
  clear LA8 LB8 b78 b9
  go_wp2_with fail
  go_loopw [9] (fun t wr => ∃ i : Nat, i ≤ na ∧ t = .int .i64 i ∧ Below u9.heap.size u9 wr) (fun t _ => na - (intOf t).toNat)
  case atStart => exact ⟨0, by omega, rfl, Below.refl _ _⟩
  case round =>
    obtain ⟨i, hi, rfl, bw⟩ := hrel
    by_cases hlt : i < na
    · obtain ⟨ga, oa, rfl, hga, hxa⟩ := (LA9.below (bw.mono s89)).at_ hlt
      obtain ⟨gb, ob, rfl, hgb, hxb⟩ := (LB9.below (bw.mono s89)).at_ hlt
      have hxa : wr.rangeAt ga (oa + i * 2) [.int .i64 (xs.getD i (0, 0)).1, .int .i64 (xs.getD i (0, 0)).2] := hxa
      have hxb : wr.rangeAt gb (ob + i * 2) (pcells ((xs.map addKey).getD i (0, 0))) := hxb
      rw [map_get (by rw [HNA.out]; exact hlt)] at hxb
      have hxb : wr.rangeAt gb (ob + i * 2) [.int .i64 (xs.getD i (0, 0)).1, .int .i64 (wrap64 ((xs.getD i (0, 0)).2 + (xs.getD i (0, 0)).1))] := hxb
      generalize (xs.getD i (0, 0)).1 = key at hxa hxb
      generalize (xs.getD i (0, 0)).2 = val at hxa hxb
      have hk : wr.cell? ⟨ga, oa + i * 2, none⟩ = some (.int .i64 key) := hxa 0 _ rfl
      have hv : wr.cell? ⟨ga, oa + i * 2 + 1, none⟩ = some (.int .i64 val) := hxa 1 _ rfl
      have hsw := bw.size
      have hga : ga < wr.heap.size := by omega
      have hgb : gb < wr.heap.size := by omega
      have hlt' : (i : Int) < (na : Int) := by omega
      have hi0 : (0 : Int) ≤ (i : Int) := by omega
      have hlb := hlt
      go_wp2_with fail
      refine wp_region_held (S := fun W => Below wr.heap.size wr W) (by kernel_rfl) ?_
      change wpAnyH _ _ _ _ _ _ _ _ wr.drew
      have c0_0 := (Below.refl wr.heap.size wr).drew
      refine Held.tk (v := .slice (some ⟨gb, ob, none⟩) na cb) 0 (some 63) rfl (Held.y_move rfl rfl) c0_0 ?_
      simp only [Act.put, Z1, Z2, Z3]
      refine Held.tk (v := .int .i64 (i : Int)) 1 (some 64) rfl (Held.y_move rfl rfl) c0_0 ?_
      simp only [Act.put, Z1, Z2, Z3]
      refine Held.tk (v := .pointer (some ⟨gb, ob + i * 2, none⟩)) 2 (some 65) rfl (Held.y_addr rfl rfl rfl (run_addr_of (P := Try.prog) 22 36 gb ob na cb i 2 .i64 Try.underlying22 size_pair hlb)) c0_0 ?_
      simp only [Act.put, Z1, Z2, Z3]
      refine Held.tk (v := .agg #[.int .i64 key, .int .i64 (wrap64 (val + key))]) 3 (some 66) rfl (y_load_range (n := 2) (cs := [.int .i64 key, .int .i64 (wrap64 (val + key))]) rfl rfl Try.underlying36 rfl size_pair rfl (fun W hW => range_below hxb hW hgb)) c0_0 ?_
      simp only [Act.put, Z1, Z2, Z3]
      refine Held.tk (v := .slice (some ⟨ga, oa, none⟩) na ca) 4 (some 67) rfl (Held.y_move rfl rfl) c0_0 ?_
      simp only [Act.put, Z1, Z2, Z3]
      refine Held.tk (v := .int .i64 (i : Int)) 5 (some 68) rfl (Held.y_move rfl rfl) c0_0 ?_
      simp only [Act.put, Z1, Z2, Z3]
      refine Held.tk (v := .pointer (some ⟨ga, oa + i * 2, none⟩)) 6 (some 69) rfl (Held.y_addr rfl rfl rfl (run_addr_of (P := Try.prog) 22 36 ga oa na ca i 2 .i64 Try.underlying22 size_pair hlt)) c0_0 ?_
      simp only [Act.put, Z1, Z2, Z3]
      refine Held.tk (v := .pointer (some ⟨ga, oa + i * 2 + 0, none⟩)) 7 (some 70) rfl (Held.y_field (k := 0) (s := 0) rfl rfl Try.underlying36 rfl (by kernel_rfl) rfl) c0_0 ?_
      simp only [Act.put, Z1, Z2, Z3]
      refine Held.tk (v := .int .i64 key) 8 (some 71) rfl (Held.y_load rfl rfl (by kernel_rfl) (fun W hW => (hW.cell (by exact hga)).trans hk)) c0_0 ?_
      simp only [Act.put, Z1, Z2, Z3]
      refine Held.tk (v := .slice (some ⟨ga, oa, none⟩) na ca) 9 (some 72) rfl (Held.y_move rfl rfl) c0_0 ?_
      simp only [Act.put, Z1, Z2, Z3]
      refine Held.tk (v := .int .i64 (i : Int)) 10 (some 73) rfl (Held.y_move rfl rfl) c0_0 ?_
      simp only [Act.put, Z1, Z2, Z3]
      refine Held.tk (v := .pointer (some ⟨ga, oa + i * 2, none⟩)) 11 (some 74) rfl (Held.y_addr rfl rfl rfl (run_addr_of (P := Try.prog) 22 36 ga oa na ca i 2 .i64 Try.underlying22 size_pair hlt)) c0_0 ?_
      simp only [Act.put, Z1, Z2, Z3]
      refine Held.tk (v := .pointer (some ⟨ga, oa + i * 2 + 1, none⟩)) 12 (some 75) rfl (Held.y_field (k := 1) (s := 0) rfl rfl Try.underlying36 rfl (by kernel_rfl) rfl) c0_0 ?_
      simp only [Act.put, Z1, Z2, Z3]
      refine Held.tk (v := .int .i64 val) 13 (some 76) rfl (Held.y_load rfl rfl (by kernel_rfl) (fun W hW => (hW.cell (by exact hga)).trans hv)) c0_0 ?_
      simp only [Act.put, Z1, Z2, Z3]
      refine Held.tk (v := .slice (some ⟨ga, oa, none⟩) na ca) 14 (some 77) rfl (Held.y_move rfl rfl) c0_0 ?_
      simp only [Act.put, Z1, Z2, Z3]
      refine Held.tk (v := .int .i64 (i : Int)) 15 (some 78) rfl (Held.y_move rfl rfl) c0_0 ?_
      simp only [Act.put, Z1, Z2, Z3]
      refine Held.tk (v := .pointer (some ⟨ga, oa + i * 2, none⟩)) 16 (some 79) rfl (Held.y_addr rfl rfl rfl (run_addr_of (P := Try.prog) 22 36 ga oa na ca i 2 .i64 Try.underlying22 size_pair hlt)) c0_0 ?_
      simp only [Act.put, Z1, Z2, Z3]
      refine Held.tk (v := .pointer (some ⟨ga, oa + i * 2 + 0, none⟩)) 17 (some 80) rfl (Held.y_field (k := 0) (s := 0) rfl rfl Try.underlying36 rfl (by kernel_rfl) rfl) c0_0 ?_
      simp only [Act.put, Z1, Z2, Z3]
      refine Held.tk (v := .int .i64 key) 18 (some 81) rfl (Held.y_load rfl rfl (by kernel_rfl) (fun W hW => (hW.cell (by exact hga)).trans hk)) c0_0 ?_
      simp only [Act.put, Z1, Z2, Z3]
      refine Held.tk (v := .int .i64 (wrap64 (val + key))) 19 (some 82) rfl (Held.y_int rfl rfl rfl (Held.run_add 2 .i64 (w64 _))) c0_0 ?_
      simp only [Act.put, Z1, Z2, Z3]
      refine Held.tk (v := .agg #[.int .i64 key, .int .i64 (wrap64 (val + key))]) 20 (some 83) rfl (Held.y_build (parts := #[_, _]) rfl (by kernel_rfl)) c0_0 ?_
      simp only [Act.put, Z1, Z2, Z3]
      refine Held.tk (v := .bool false) 21 (some 84) rfl (y_nep (a := key) (b := (wrap64 (val + key))) (c := key) (d := (wrap64 (val + key))) rfl rfl rfl (by simp)) c0_0 ?_
      simp only [Act.put, Z1, Z2, Z3]
      refine wpAnyH_done (by kernel_rfl) ?_ _
      go_wp2_with fail
      go_roundw
      case rel => exact ⟨i + 1, by omega, by go_num, bw.drew⟩
      case measure => simp [intOf]; omega
    · have hin : i = na := by omega
      subst hin
      have bz := b89.trans (bw.mono (Nat.le_trans hwu_ (Nat.le_refl _)))
      go_wp2_with fail
      go_ret
      exact ⟨rfl, bz⟩
theorem walk (A0 : Option Addr) (m0 c0 : Nat) (ps0 : List (Int × Int)) (w : World) (hp0 : Sl.Lst Sp.kP w w.heap.size A0 m0 ps0 ∧ m0 ≤ c0 ∧ c0 ≤ maxLen) :
    Calls Try.prog 6 #[.slice A0 m0 c0] w fun e w' => e = .returned (.bool true) ∧ Below w.heap.size w w' := by
  exact start A0 m0 c0 ps0 w hp0.1
set_option maxRecDepth 100000 in
theorem lifted (os : Os) (started : os.Started) (H : Type) (enc : TypeId × Value → H) :
    ReturnsInHanded {} Try.checked os 6 .any (Rows.specFinishSpec.pre6 enc Try.prog Try.f6 Rows.specFinishRow.domain false) (Rows.specFinishSpec.post enc Try.prog Try.f6 false true false false) := by
  refine returnsInHanded_of_change (C := Try.checked) own started (by kernel_rfl) Try.func6
    (ChangeSpec.witness6 (enc := enc) (C := Try.checked) false ⟨#[], #[.slice none 0 0], []⟩ 8 (by kernel_rfl) (by kernel_rfl) (by kernel_rfl) (by kernel_rfl)) ?_
  intro W base args ds gs before hval0 hW hcnd _
  have hval : ∀ (j : Nat) t v, Try.f6.params[j]? = some t → args[j]? = some v → Value.okWide Try.prog W .any base t v := hval0
  have hW' := hW
  obtain ⟨p, q, hA0, hV, rfl, hfz, hnd⟩ := hW
  have hA : DataW.TrodAll enc Try.prog W 0 (fun _ => true) true Try.f6.params.toList args.toList ds p := hA0
  rw [Try.params6] at hA hval
  obtain ⟨v0, vs0, d0, ds0, p0, q0, hargs, rfl, rfl, h0, r0⟩ := trodAll_cons hA
  obtain ⟨rfl, rfl, rfl⟩ := trodAll_nil r0
  obtain rfl : args = #[v0] := by cases args; simp_all
  obtain ⟨rfl, rfl⟩ := trodVars_none hV
  obtain ⟨A0, m0, c0, rfl⟩ := okWide_slice Try.underlying22 (hval 0 22 v0 rfl rfl)
  have kk0 := h0
  have lt0 : ∀ x ∈ p0, x.block < W.heap.size := by obtain ⟨m, hm⟩ := kk0; exact DataW.trod_lt m _ _ _ hm
  obtain ⟨ps0, hp0⟩ := Vm.open_lstT (k := Sp.kP) Try.underlying22 (by kernel_rfl) Sp.open_pair1 h0
  clear hA0 hval0
  refine (walk A0 m0 c0 ps0 W hp0).mono fun e W' ⟨he, bel⟩ => ?_
  subst he
  exact ⟨_, rfl, _, _, _, [], _, [], hW', trodAll_mk1 (shut_bool Try.underlying4 _), (trodAll_cons_mk (Below.trod laidOut (by kernel_rfl) (of_decide_eq_true (by kernel_rfl)) kk0 bel lt0) trodAll_mk0), rfl, bel.frame _, fun h => by cases h⟩
theorem over : Rows.specFinishRow.holds Try.pinned (OpenSpec.ofChange Rows.specFinishSpec) :=
  OpenClaim.holds_of_wide 6 Try.f6 rfl rfl rfl rfl rfl rfl rfl ⟨rfl, rfl, rfl, rfl, rfl⟩ rfl rfl rfl rfl rfl (by kernel_rfl) Try.func6 (by kernel_rfl)
    (of_decide_eq_true (by kernel_rfl)) (by unfold Func.isWrapper; first | (rw [if_pos (by decide +kernel)]; kernel_rfl) | (rw [if_neg (by decide +kernel)]; exact ⟨rfl, rfl⟩))
    (fun os started H enc _ => lifted os started H enc)
theorem proved : Rows.SpecFinishSaid :=
  over
#print axioms proved
end Go.Proofs.Ytjhpbpoldedldaa.specFinish
