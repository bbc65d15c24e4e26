/-
  The law SpecFilter (the pairs whose value is above a number, counted under each key): the program's answer is true.
-/
import Derived.Test.YtjhpbpoldedldaaRows
import Derived.WalkKit
import Derived.ProofKit
import Derived.OpenShut
import Derived.ShutString
import Derived.ChangeOld
import Derived.Below
import Derived.Test.YtjhpbpoldedldaaB8
namespace Go.Proofs.Ytjhpbpoldedldaa.specFilter
open Go.ChangeShapes Go.WideShapes Go.ChangeAt Go.RowKit
open Go.ChangeMaps (open_string shut_string)
open Go.Shelf Go.Proofs.Ytjhpbpoldedldaa Mem Held Go.Proofs.Ytjhpbpoldedldaa.Range Rc Rs Sl Vm Sp
theorem own : ownKnob Try.prog.godebug = none := by kernel_rfl
theorem laidOut : laidOutB Try.prog = true := by kernel_rfl
attribute [local irreducible] wpList Calls
theorem zero_i (w : World) : (zeroValue 2).run Try.prog w = .ok (.int .i64 0) w := by kernel_rfl
theorem y_look_eq {P : Program} {S : World → Prop} {ρ : Operand → Value} {o : Oper} {K T : TypeId} {b n : Nat} {M : List (Int × Int)} {m x : Operand} {k v : Int} (ho : o.op = .lookup T m x false) (hm : ρ m = .map (some b)) (hx : ρ x = .int .i64 k) (hk : (Lit.int .i64 k).wf = true) (hK : P.underlying K = some (.int .i64)) (hT : P.underlying T = some (.map K K)) (hz : ∀ w, (zeroValue K).run P w = .ok (.int .i64 0) w) (h : ∀ w, S w → Mp P K w b n M) (hv : Sp.look M k = v) :
    ∀ w, S w → (execOp ρ o).run P w = .ok (.value (.int .i64 v)) w := hv ▸ y_look ho hm hx hk hK hT hz h
theorem y_lenm_eq {P : Program} {S : World → Prop} {ρ : Operand → Value} {o : Oper} {K T : TypeId} {b n : Nat} {M : List (Int × Int)} {x : Operand} {v : Int} (ho : o.op = .call { callee := .builtin .len, args := #[x], argTypes := #[T] }) (hx : ρ x = .map (some b)) (hT : P.underlying T = some (.map K K)) (h : ∀ w, S w → Mp P K w b n M) (hv : (M.length : Int) = v) :
    ∀ w, S w → (execOp ρ o).run P w = .ok (.value (.int .i64 v)) w := hv ▸ y_lenm ho hx hT h
def mF (above : Int) : List O := [⟨1, 4, 0, 0, 0, above⟩, ⟨8, 5, 4, 1, 0, 0⟩, ⟨1, 6, 0, 0, 0, 1⟩, ⟨12, 0, 0, 6, 5, 0⟩]
theorem mF_wf {above : Int} (h : (Lit.int .i64 above).wf = true) : ∀ x ∈ mF above, x.wf := fun x hx => by
  simp only [mF, List.mem_cons, List.not_mem_nil, or_false] at hx
  rcases hx with rfl | rfl | rfl | rfl
  · exact ⟨rfl, rfl, rfl, rfl, rfl, h⟩
  all_goals exact ⟨rfl, rfl, rfl, rfl, rfl, rfl⟩
theorem checkF (above : Int) : checkB 1 (mF above) sumsF [] = true := by rfl
theorem right_of {n : Nat} (h1 : 0 < n) (h20 : n ≤ 20) : rightB (n : Int) 1 1 1 = true := by
  have e : ((n : Int) + 1 - 1) / 1 = n := by rw [Int.ediv_one]; omega
  unfold rightB
  rw [e]
  simp only [Bool.and_eq_true, decide_eq_true_eq]
  refine ⟨⟨⟨⟨⟨?_, ?_⟩, ?_, ?_⟩, ?_, ?_⟩, ?_, ?_⟩, ?_⟩ <;> omega
def cnt (above : Int) (ps : List (Int × Int)) (i : Nat) : List (Int × Int) := foldP (foldV 1 (mF above) sumsF []) (liveTo 1 (mF above) sumsF [] ps i)
theorem cnt_fold (above a v : Int) : foldV 1 (mF above) sumsF [] a v = wrap64 (a + v) := by
  rw [foldV, if_pos (checkF above)]
  rfl
theorem cnt_live (above : Int) (ps : List (Int × Int)) (i : Nat) : ∃ s, liveAt 1 (mF above) sumsF [] ps i = if above < (ps.getD i (0, 0)).2 then [⟨false, (ps.getD i (0, 0)).1, 1, s⟩] else [] := by
  rw [liveAt, mapR, if_pos (checkF above)]
  refine ⟨wrap64 (wrap64 ((i : Int) * 1) + 0), ?_⟩
  show List.filter (fun r => !r.d) [if (if above < (ps.getD i (0, 0)).2 then (1 : Int) else 0) = 0 then RD else ⟨false, (ps.getD i (0, 0)).1, 1, wrap64 (wrap64 ((i : Int) * 1) + 0)⟩] = _
  by_cases h : above < (ps.getD i (0, 0)).2
  · rw [if_pos h, if_pos h, if_neg (by decide)]
    rfl
  · rw [if_neg h, if_neg h, if_pos rfl]
    rfl
theorem cnt_step (above : Int) (ps : List (Int × Int)) (i : Nat) : cnt above ps (i + 1) = if above < (ps.getD i (0, 0)).2 then put (ps.getD i (0, 0)).1 (wrap64 (Sp.look (cnt above ps i) (ps.getD i (0, 0)).1 + 1)) (cnt above ps i) else cnt above ps i := by
  unfold cnt
  rw [liveTo_snoc, foldP_app]
  have hF : foldV 1 (mF above) sumsF [] = fun a v => wrap64 (a + v) := by
    funext a v
    exact cnt_fold above a v
  rw [hF]
  generalize foldP (fun a v => wrap64 (a + v)) (liveTo 1 (mF above) sumsF [] ps i) = L
  obtain ⟨s, e⟩ := cnt_live above ps i
  rw [e]
  split
  · simp only [List.foldl_cons, List.foldl_nil, ins_put]
    congr 1
    split
    · rfl
    · rename_i h
      rw [look_none h]
      unfold wrap64
      omega
  · rfl
theorem cnt_run (above : Int) (ps : List (Int × Int)) : runP 1 (mF above) sumsF [] ps = sortP (cnt above ps ps.length) := by
  have e : finP 1 (mF above) sumsF [] = id := by
    funext p
    simp only [finP, finishV, if_pos (checkF above)]
    rfl
  rw [runP, e, List.map_id, live, cnt]
set_option maxRecDepth 100000 in
set_option maxHeartbeats 16000000 in
theorem start (A : Option Addr) (n c : Nat) (ps : List (Int × Int)) (above : Int) (w : World) (hp : Lst kP w w.heap.size A n ps) (hab : (Lit.int .i64 above).wf = true) :
    Calls Try.prog 5 #[.slice A n c, .int .i64 above] w fun e w' => e = .returned (.bool true) ∧ Below w.heap.size w w' := by
  have HS := Lib.hid (fun i => cnt_step above ps i)
  have HC := Lib.hid (checkF above)
  have HL := Lib.hid hp.1
  have HR := Lib.hid (show runP ((1 : Nat) : Int) (mF above) sumsF [] ps = sortP (cnt above ps n) by rw [← HL.out]; exact cnt_run above ps)
  have HND := Lib.hid (fun i => show ((cnt above ps i).map (·.1)).Nodup from foldP_nodup (foldV 1 (mF above) sumsF []) (liveTo 1 (mF above) sumsF [] ps i))
  go_enter Try.func5, Try.ntmps5
  by_cases h0 : n = 0
  · subst h0
    go_wp2_with fail
    refine (awake12_any w).mono ?_
    rintro e u2 ⟨rfl, b2⟩
    go_wp2_with fail
    go_ret
    exact ⟨rfl, b2⟩
  by_cases h20 : 20 < n
  · have h0' : ¬ (n : Int) = 0 := by omega
    have h20' : (n : Int) > 20 := by omega
    clear h0 h20
    go_wp2_with fail
    refine (awake12_any w).mono ?_
    rintro e u2 ⟨rfl, b2⟩
    go_wp2_with fail
    go_ret
    exact ⟨rfl, b2⟩
  have hn0 : 0 < n := by omega
  have hn20 : n ≤ 20 := by omega
  have h0' : ¬ (n : Int) = 0 := by omega
  have h20' : ¬ (n : Int) > 20 := by omega
  have HB := Lib.hid (right_of hn0 hn20)
  have HMW := Lib.hid (mF_wf hab)
  have HW := Lib.hid (show ∀ x ∈ cnt above ps n, pwf x from foldP_wf (foldV_wf sumsF_wf) _ (fun r hr => live_wf (K := 1) (f := sumsF) (e := []) HMW.out hp.2.1 (by rw [hp.1]; omega) r (by rw [live, HL.out]; exact hr)))
  clear h0 h20
  go_wp2_with (first
    | (refine wpList_build_blk rfl 41 #[(0, _), (1, _), (5, _)] rfl #[.int .i64 1, .int .i64 4, .int .i64 0, .int .i64 0, .int .i64 0, .int .i64 above] (by rfl) ?_)
    | (refine wpList_build_blk rfl 41 #[(0, _), (1, _), (2, _), (3, _)] rfl #[.int .i64 8, .int .i64 5, .int .i64 4, .int .i64 1, .int .i64 0, .int .i64 0] (by rfl) ?_)
    | (refine wpList_build_blk rfl 41 #[(0, _), (1, _), (5, _)] rfl #[.int .i64 1, .int .i64 6, .int .i64 0, .int .i64 0, .int .i64 0, .int .i64 1] (by rfl) ?_)
    | (refine wpList_build_blk rfl 41 #[(0, _), (2, _), (3, _), (4, _)] rfl #[.int .i64 12, .int .i64 0, .int .i64 0, .int .i64 6, .int .i64 5, .int .i64 0] (by rfl) ?_)
    | (refine wpList_build_blk rfl 41 #[(0, _), (3, _)] rfl #[.int .i64 2, .int .i64 0, .int .i64 0, .int .i64 1, .int .i64 0, .int .i64 0] (by rfl) ?_)
    | (refine wpList_build_lst (w := w) (k := kO) rfl 28 41 4 _ rfl Try.underlying28 _ 48 info_op rfl (mF above) rfl (by kernel_rfl) (by omega) (by decide) ?_; intro u1 q1 g1 z1)
    | (refine wpList_build_lst (w := u1) (k := kO) rfl 28 41 1 _ rfl Try.underlying28 _ 48 info_op rfl sumsF rfl (by kernel_rfl) (by omega) (by decide) ?_; intro u2 q2 g2 z2)
    | (refine wpList_build_blk rfl 30 _ rfl #[.int .i64 1, .slice (some ⟨w.heap.size, 0, none⟩) 4 4, .slice (some ⟨u1.heap.size, 0, none⟩) 1 1, .slice none 0 0] (by kernel_rfl) ?_)
    | (refine wpList_alloc_blk (w := u2) rfl 30 rfl _ zero_prog ?_; intro u3 q3 g3 z3)
    | (refine wpList_store_blk (w := u3) rfl 30 _ _ rfl u2.heap.size 4 rfl 30 _ #[.int .i64 1, .slice (some ⟨w.heap.size, 0, none⟩) 4 4, .slice (some ⟨u1.heap.size, 0, none⟩) 1 1, .slice none 0 0] rfl q3 info_prog rfl rfl (by kernel_rfl) ?_; intro u4 q4 g4 z4)
    | (refine wpList_load_blk (w := u4) rfl 30 _ rfl u2.heap.size 4 rfl 30 _ q4 _ Try.underlying30 rfl info_prog rfl ?_)
    | (refine wpList_run (w := u4) rfl (v := .agg #[.int .i64 (n : Int), .int .i64 1, .int .i64 1, .int .i64 1]) (y_build (S := fun _ => True) (parts := #[_, _, _, _]) rfl (by kernel_rfl) _ trivial) ?_))
  have l1 := q1.lt
  have l2 := q2.lt
  have hw1 := g1.size
  have hw2 := g2.size
  have hw3 := g3.size
  have hw4 := g4.size
  have b4 : Below w.heap.size w u4 := ((((Below.refl _ w).grown g1 (Nat.le_refl _) (by simp)).grown g2 g1.size (by simp)).grown g3 (by omega) (by simp)).grown g4 (by omega) (fun r e => by cases e; omega)
  have LM : Lst kO u4 u4.heap.size (some ⟨w.heap.size, 0, none⟩) 4 (mF above) := lst_whole (((q1.grown g2 (by simp)).grown g3 (by simp)).grown g4 (by intro e; injection e with e; omega)) rfl HMW.out
  have LF : Lst kO u4 u4.heap.size (some ⟨u1.heap.size, 0, none⟩) 1 sumsF := lst_whole ((q2.grown g3 (by simp)).grown g4 (by intro e; injection e with e; omega)) rfl sumsF_wf
  have hp4 := hp.below b4
  have hs4 := b4.size
  clear q1 q2 q3 q4 g1 g2 g3 g4 z1 z2 z3 z4 hw1 hw2 hw3 hw4 l1 l2 hp
  refine (run_ok u4.heap.size 1 1 1 _ _ none A 4 4 1 1 0 0 n c (mF above) sumsF [] ps u4 LM LF (Lst.nil _ _ _ _) (hp4.more hs4) (Nat.le_refl _) HC.out HB.out).mono ?_
  rintro e u5 ⟨Aa, na, ca, rfl, oa, b5⟩
  rw [HR.out] at oa
  have LA := oa.lst (fun x hx => HW.out x (sortP_mem.1 hx))
  have hp5 := hp4.below (b5.mono hs4)
  have bw5 := b4.trans (b5.mono hs4)
  have hs5 := bw5.size
  clear LM LF hp4 b4 b5 oa HC HB HR HMW hs4
  go_wp2_with (refine wpList_makeMap_mp (w := u5) rfl 34 2 rfl Try.underlying34 ?_; intro u7 m7 g7 z7)
  have b7 : Below u5.heap.size u5 u7 := (Below.refl _ u5).grown g7 (Nat.le_refl _) (by simp)
  have m7 : Mp Try.prog 2 u7 u5.heap.size 0 (cnt above ps 0) := m7
  go_loopw [9] (fun t wr => ∃ i q : Nat, i ≤ n ∧ q ≤ i ∧ t = .int .i64 i ∧ Mp Try.prog 2 wr u5.heap.size q (cnt above ps i) ∧ Below u5.heap.size u5 wr) (fun t _ => n - (intOf t).toNat)
  case atStart => exact ⟨0, 0, by omega, Nat.le_refl _, rfl, m7, b7⟩
  case round =>
    clear m7 b7 g7 z7
    obtain ⟨i, q, hi, hq, rfl, mi, bw⟩ := hrel
    by_cases hlt : i < n
    · obtain ⟨g, off, rfl, hg, hx⟩ := (hp5.below (bw.mono (by omega))).at_ hlt
      have hx : wr.rangeAt g (off + i * 2) [.int .i64 (ps.getD i (0, 0)).1, .int .i64 (ps.getD i (0, 0)).2] := hx
      have hpw : pwf (ps.getD i (0, 0)) := (hp5.below (bw.mono (by omega))).wf_at hlt
      have HS1 := HS.out i
      obtain ⟨hkw, hvw⟩ := hpw
      generalize (ps.getD i (0, 0)).1 = key at hx HS1 hkw
      generalize (ps.getD i (0, 0)).2 = val at hx HS1 hvw
      have hck : wr.cell? ⟨g, off + i * 2, none⟩ = some (.int .i64 key) := hx 0 _ rfl
      have hcv : wr.cell? ⟨g, off + i * 2 + 1, none⟩ = some (.int .i64 val) := hx 1 _ rfl
      have hsw := bw.size
      have hgm : ¬ g = u5.heap.size := by omega
      have hlt' : (i : Int) < (n : Int) := by omega
      have hi0 : (0 : Int) ≤ (i : Int) := by omega
      by_cases hgt : above < val
      · rw [if_pos hgt] at HS1
        have HSP := Lib.hid HS1
        clear HS1
        generalize cnt above ps i = M at mi HSP
        have hgt' : val > above := hgt
        go_wp2_with (first
          | (refine wpList_run (w := wr) rfl (v := .pointer (some ⟨g, off + i * 2, none⟩)) (Held.y_addr (S := fun _ => True) rfl rfl rfl (run_addr_of (P := Try.prog) 22 36 g off n c i 2 .i64 Try.underlying22 size_pair hlt) _ trivial) ?_)
          | (refine wpList_run (w := wr) rfl (v := .pointer (some ⟨g, off + i * 2 + 1, none⟩)) (Held.y_field (S := fun _ => True) (k := 1) (s := 0) rfl rfl Try.underlying36 rfl (by kernel_rfl) rfl _ trivial) ?_)
          | (refine wpList_run (w := wr) rfl (v := .pointer (some ⟨g, off + i * 2, none⟩)) (Held.y_field (S := fun _ => True) (k := 0) (s := 0) rfl rfl Try.underlying36 rfl (by kernel_rfl) rfl _ trivial) ?_)
          | (refine wpList_run (w := wr) rfl (v := .int .i64 (Sp.look M key)) (y_look (S := fun W => W = wr) (K := 2) (T := 34) (b := u5.heap.size) (n := q) (M := M) (k := key) rfl rfl rfl hkw Try.underlying2 Try.underlying34 zero_i (fun W hW => by rw [hW]; exact mi) _ rfl) ?_)
          | (refine wpList_run (w := wr) rfl (v := .int .i64 (wrap64 (Sp.look M key + 1))) (Held.y_int (S := fun _ => True) rfl rfl rfl (Held.run_add 2 .i64 (w64 _)) _ trivial) ?_)
          | (refine wpList_mapUpdate_mp (w := wr) rfl _ _ _ 34 2 key (wrap64 (Sp.look M key + 1)) rfl u5.heap.size q M rfl rfl rfl hkw (wrap64_wf _) Try.underlying2 Try.underlying34 mi (by omega) ?_; intro v1 m2 g2; rw [← HSP.out] at m2; have b2 := bw.grown g2 hsw (fun r e => by cases e; exact Nat.le_refl _)))
        go_roundw
        case rel => exact ⟨i + 1, q + 1, by omega, by omega, by go_num, m2, b2⟩
        case measure => simp [intOf]; omega
      · rw [if_neg hgt] at HS1
        have HSP := Lib.hid HS1
        clear HS1
        have hgt' : ¬ val > above := hgt
        go_wp2_with (first
          | (refine wpList_run (w := wr) rfl (v := .pointer (some ⟨g, off + i * 2, none⟩)) (Held.y_addr (S := fun _ => True) rfl rfl rfl (run_addr_of (P := Try.prog) 22 36 g off n c i 2 .i64 Try.underlying22 size_pair hlt) _ trivial) ?_)
          | (refine wpList_run (w := wr) rfl (v := .pointer (some ⟨g, off + i * 2 + 1, none⟩)) (Held.y_field (S := fun _ => True) (k := 1) (s := 0) rfl rfl Try.underlying36 rfl (by kernel_rfl) rfl _ trivial) ?_))
        go_roundw
        case rel => exact ⟨i + 1, q, by omega, by omega, by go_num, by rw [HSP.out]; exact mi, bw⟩
        case measure => simp [intOf]; omega
    · have hin : i = n := by omega
      subst hin
      have LAw := LA.below bw
      have hnd := HND.out i
      have hlen : (sortP (cnt above ps i)).length = na := LAw.1
      rw [sortP_length] at hlen
      have HLM := Lib.hid hlen
      have HLMi := Lib.hid (show ((cnt above ps i).length : Int) = (na : Int) by rw [hlen])
      have HLK := Lib.hid (fun (p : Nat) (h : p < (cnt above ps i).length) => look_sorted hnd h)
      have hle : na ≤ 10000 := by
        rw [← hlen]
        have h1 : (cnt above ps i).length ≤ _ := foldP_length (foldV 1 (mF above) sumsF []) (liveTo 1 (mF above) sumsF [] ps i)
        have h2 := live_length 1 (mF above) sumsF [] ps
        rw [live, HL.out] at h2
        omega
      clear hp5 HS HND hlen hnd LA
      generalize cnt above ps i = M at *
      have bww := bw5.trans (bw.mono bw5.size)
      have hsw := bw.size
      go_wp2_with fail
      refine (awake12_any wr).mono ?_
      rintro e u8 ⟨rfl, b8⟩
      have LA8 := LAw.below (b8.mono hsw)
      have m8 := mi.below b8
      have mlt := m8.lt
      have bw8 := bww.trans (b8.mono bww.size)
      have hs8 := bw8.size
      have h58 : u5.heap.size ≤ u8.heap.size := Nat.le_trans hsw b8.size
      clear LAw mi bw b8 bww
      go_wp2_with (refine wpList_run (w := u8) rfl (v := .int .i64 (na : Int)) (y_lenm_eq (S := fun W => W = u8) (K := 2) (T := 34) (b := u5.heap.size) (n := q) (M := M) rfl rfl Try.underlying34 (fun W hW => by rw [hW]; exact m8) HLMi.out _ rfl) ?_)
      go_loopw [10] (fun t wx => ∃ j : Nat, j ≤ na ∧ t = .int .i64 j ∧ Below u8.heap.size u8 wx) (fun t _ => na - (intOf t).toNat)
      case atStart => exact ⟨0, by omega, rfl, Below.refl _ _⟩
      case round =>
        obtain ⟨j, hj, rfl, bx⟩ := hrel
        by_cases hlt : j < na
        · have hlm : j < M.length := by rw [HLM.out]; exact hlt
          obtain ⟨g, off, rfl, hg, hx⟩ := (LA8.below (bx.mono (by omega))).at_ hlt
          have hx : wr.rangeAt g (off + j * 2) [.int .i64 ((sortP M).getD j (0, 0)).1, .int .i64 ((sortP M).getD j (0, 0)).2] := hx
          obtain ⟨hin, hlk⟩ := HLK.out j hlm
          have hwj : pwf ((sortP M).getD j (0, 0)) := HW.out _ (sortP_mem.1 (by rw [List.getD_eq_getElem?_getD, List.getElem?_eq_getElem (by rw [sortP_length]; exact hlm)]; exact List.getElem_mem _))
          obtain ⟨hkw, hvw⟩ := hwj
          clear hin
          generalize ((sortP M).getD j (0, 0)).1 = key at hx hlk hkw
          generalize ((sortP M).getD j (0, 0)).2 = val at hx hlk hvw
          have hck : wr.cell? ⟨g, off + j * 2, none⟩ = some (.int .i64 key) := hx 0 _ rfl
          have hcv : wr.cell? ⟨g, off + j * 2 + 1, none⟩ = some (.int .i64 val) := hx 1 _ rfl
          have hsx := bx.size
          have hgx : g < wr.heap.size := by omega
          have hlt' : (j : Int) < (na : Int) := by omega
          have hj0 : (0 : Int) ≤ (j : Int) := by omega
          have HLK2 := Lib.hid hlk
          have mx := m8.below bx
          clear hlk hlm
          go_wp2_with fail
          refine wp_region_held (S := fun W => Below wr.heap.size wr W) (by kernel_rfl) ?_
          change wpAnyH _ _ _ _ _ _ _ _ wr.drew
          have c0_0 := (Below.refl wr.heap.size wr).drew
          refine Held.tk (v := .map (some u5.heap.size)) 0 (some 79) rfl (Held.y_move rfl rfl) c0_0 ?_
          simp only [Act.put, Z1, Z2, Z3]
          refine Held.tk (v := .slice (some ⟨g, off, none⟩) na ca) 1 (some 80) rfl (Held.y_move rfl rfl) c0_0 ?_
          simp only [Act.put, Z1, Z2, Z3]
          refine Held.tk (v := .int .i64 (j : Int)) 2 (some 81) rfl (Held.y_move rfl rfl) c0_0 ?_
          simp only [Act.put, Z1, Z2, Z3]
          refine Held.tk (v := .pointer (some ⟨g, off + j * 2, none⟩)) 3 (some 82) rfl (Held.y_addr rfl rfl rfl (run_addr_of (P := Try.prog) 22 36 g off na ca j 2 .i64 Try.underlying22 size_pair hlt)) c0_0 ?_
          simp only [Act.put, Z1, Z2, Z3]
          refine Held.tk (v := .pointer (some ⟨g, off + j * 2, none⟩)) 4 (some 83) rfl (Held.y_field (k := 0) (s := 0) rfl rfl Try.underlying36 rfl (by kernel_rfl) rfl) c0_0 ?_
          simp only [Act.put, Z1, Z2, Z3]
          refine Held.tk (v := .int .i64 key) 5 (some 84) rfl (Held.y_load rfl rfl (by kernel_rfl) (fun W hW => (hW.cell (by exact hgx)).trans hck)) c0_0 ?_
          simp only [Act.put, Z1, Z2, Z3]
          refine Held.tk (v := .int .i64 val) 6 (some 85) rfl (y_look_eq (K := 2) (T := 34) (b := u5.heap.size) (n := q) (M := M) (k := key) rfl rfl rfl hkw Try.underlying2 Try.underlying34 zero_i (fun W hW => mx.below hW) HLK2.out) c0_0 ?_
          simp only [Act.put, Z1, Z2, Z3]
          refine Held.tk (v := .slice (some ⟨g, off, none⟩) na ca) 7 (some 86) rfl (Held.y_move rfl rfl) c0_0 ?_
          simp only [Act.put, Z1, Z2, Z3]
          refine Held.tk (v := .int .i64 (j : Int)) 8 (some 87) rfl (Held.y_move rfl rfl) c0_0 ?_
          simp only [Act.put, Z1, Z2, Z3]
          refine Held.tk (v := .pointer (some ⟨g, off + j * 2, none⟩)) 9 (some 88) rfl (Held.y_addr rfl rfl rfl (run_addr_of (P := Try.prog) 22 36 g off na ca j 2 .i64 Try.underlying22 size_pair hlt)) c0_0 ?_
          simp only [Act.put, Z1, Z2, Z3]
          refine Held.tk (v := .pointer (some ⟨g, off + j * 2 + 1, none⟩)) 10 (some 89) rfl (Held.y_field (k := 1) (s := 0) rfl rfl Try.underlying36 rfl (by kernel_rfl) rfl) c0_0 ?_
          simp only [Act.put, Z1, Z2, Z3]
          refine Held.tk (v := .int .i64 val) 11 (some 90) rfl (Held.y_load rfl rfl (by kernel_rfl) (fun W hW => (hW.cell (by exact hgx)).trans hcv)) c0_0 ?_
          simp only [Act.put, Z1, Z2, Z3]
          refine Held.tk (v := .bool false) 12 (some 91) rfl (Held.y_neI rfl rfl rfl (by simp)) c0_0 ?_
          simp only [Act.put, Z1, Z2, Z3]
          refine wpAnyH_done (by kernel_rfl) ?_ _
          go_wp2_with fail
          go_roundw
          case rel => exact ⟨j + 1, by omega, by go_num, bx.drew⟩
          case measure => simp [intOf]; omega
        · have hjn : j = na := by omega
          subst hjn
          have bz := bw8.trans (bx.mono bw8.size)
          go_wp2_with fail
          go_ret
          exact ⟨rfl, bz⟩
theorem walk (A0 : Option Addr) (m0 c0 : Nat) (ps0 : List (Int × Int)) (a1 : Int) (w : World) (hp0 : Sl.Lst Sp.kP w w.heap.size A0 m0 ps0 ∧ m0 ≤ c0 ∧ c0 ≤ maxLen) (w1 : (Lit.int .i64 a1).wf = true) :
    Calls Try.prog 5 #[.slice A0 m0 c0, .int .i64 a1] w fun e w' => e = .returned (.bool true) ∧ Below w.heap.size w w' := by
  exact start A0 m0 c0 ps0 a1 w hp0.1 w1
set_option maxRecDepth 100000 in
theorem lifted (os : Os) (started : os.Started) (H : Type) (enc : TypeId × Value → H) :
    ReturnsInHanded {} Try.checked os 5 .any (Rows.specFilterSpec.pre6 enc Try.prog Try.f5 Rows.specFilterRow.domain false) (Rows.specFilterSpec.post enc Try.prog Try.f5 false true false false) := by
  refine returnsInHanded_of_change (C := Try.checked) own started (by kernel_rfl) Try.func5
    (ChangeSpec.witness6 (enc := enc) (C := Try.checked) false ⟨#[], #[.slice none 0 0, .int .i64 0], []⟩ 8 (by kernel_rfl) (by kernel_rfl) (by kernel_rfl) (by kernel_rfl)) ?_
  intro W base args ds gs before hval0 hW hcnd _
  have hval : ∀ (j : Nat) t v, Try.f5.params[j]? = some t → args[j]? = some v → Value.okWide Try.prog W .any base t v := hval0
  have hW' := hW
  obtain ⟨p, q, hA0, hV, rfl, hfz, hnd⟩ := hW
  have hA : DataW.TrodAll enc Try.prog W 0 (fun _ => true) true Try.f5.params.toList args.toList ds p := hA0
  rw [Try.params5] at hA hval
  obtain ⟨v0, vs0, d0, ds0, p0, q0, hargs, rfl, rfl, h0, r0⟩ := trodAll_cons hA
  obtain ⟨v1, vs1, d1, ds1, p1, q1, rfl, rfl, rfl, h1, r1⟩ := trodAll_cons r0
  obtain ⟨rfl, rfl, rfl⟩ := trodAll_nil r1
  obtain rfl : args = #[v0, v1] := by cases args; simp_all
  obtain ⟨rfl, rfl⟩ := trodVars_none hV
  obtain ⟨A0, m0, c0, rfl⟩ := okWide_slice Try.underlying22 (hval 0 22 v0 rfl rfl)
  have kk0 := h0
  have lt0 : ∀ x ∈ p0, x.block < W.heap.size := by obtain ⟨m, hm⟩ := kk0; exact DataW.trod_lt m _ _ _ hm
  obtain ⟨ps0, hp0⟩ := Vm.open_lstT (k := Sp.kP) Try.underlying22 (by kernel_rfl) Sp.open_pair1 h0
  obtain ⟨a1, rfl, rfl, rfl, w1⟩ := open_int Try.underlying2 (hval 1 2 v1 rfl rfl) h1
  clear hA0 hval0
  refine (walk A0 m0 c0 ps0 a1 W hp0 w1).mono fun e W' ⟨he, bel⟩ => ?_
  subst he
  exact ⟨_, rfl, _, _, _, [], _, [], hW', trodAll_mk1 (shut_bool Try.underlying4 _), (trodAll_cons_mk (Below.trod laidOut (by kernel_rfl) (of_decide_eq_true (by kernel_rfl)) kk0 bel lt0) (trodAll_cons_mk (shut_int Try.underlying2 w1) trodAll_mk0)), rfl, bel.frame _, fun h => by cases h⟩
theorem over : Rows.specFilterRow.holds Try.pinned (OpenSpec.ofChange Rows.specFilterSpec) :=
  OpenClaim.holds_of_wide 5 Try.f5 rfl rfl rfl rfl rfl rfl rfl ⟨rfl, rfl, rfl, rfl, rfl⟩ rfl rfl rfl rfl rfl (by kernel_rfl) Try.func5 (by kernel_rfl)
    (of_decide_eq_true (by kernel_rfl)) (by unfold Func.isWrapper; first | (rw [if_pos (by decide +kernel)]; kernel_rfl) | (rw [if_neg (by decide +kernel)]; exact ⟨rfl, rfl⟩))
    (fun os started H enc _ => lifted os started H enc)
theorem proved : Rows.SpecFilterSaid :=
  over
#print axioms proved
end Go.Proofs.Ytjhpbpoldedldaa.specFilter
