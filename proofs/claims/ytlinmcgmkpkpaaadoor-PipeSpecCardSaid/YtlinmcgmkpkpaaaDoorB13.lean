/-
  The method run of package vm's machine, by its contract: its registers and slots are what the operations leave, one by one.
  Package vm's Fold and Finish, by their contracts.
  Blocks of records that a call owns, as a list of lists; what a round of a range over a function keeps of them; a list of blocks that is made of nothing but nils.
  Package spec's within, blocks and Right, by their contracts.
-/
import Derived.Test.YtlinmcgmkpkpaaaDoorB6
import Derived.Test.YtlinmcgmkpkpaaaDoorB11
import Derived.Test.YtlinmcgmkpkpaaaDoorB12
set_option linter.unusedVariables false
namespace Go.Proofs.YtlinmcgmkpkpaaaDoor.Vm
open Go.RowKit Go.Shelf Go.Proofs.YtlinmcgmkpkpaaaDoor Mem Held Go.Proofs.YtlinmcgmkpkpaaaDoor.Range Rc Rs Sl
attribute [local go_sem] Oper.semAt_some
attribute [local irreducible] wpList wpListIn Calls
theorem only_blk {S : Nat → Prop} {w w' : World} {g : Nat} {t : TypeId} {cs : Array Value} (h : Only S w w') (hg : ¬ S g) (hb : Blk w g t cs) : Blk w' g t cs := h.block g _ hg hb rfl
def RunI (w : World) (B0 g gs K : Nat) (A2 : Option Addr) (kc : Nat) (f : Int) (xs : List O) (r : List Int) (out : List R) (k : Nat) (W : World) : Prop :=
  k ≤ xs.length ∧ W.heap[w.heap.size]? = some (.cells #[.pointer (some ⟨g, 0, none⟩)] 129 (0, 0)) ∧ Blk W g 105 (mach (runR (xs.take k) r) (.slice A2 K kc) f) ∧ (0 < K → Blk W gs 51 (flat kR (runOut f (xs.take k) r out)).toArray) ∧ Below B0 w W
theorem RunI.far {w : World} {B0 g gs K : Nat} {A2 : Option Addr} {kc : Nat} {f : Int} {xs : List O} {r : List Int} {out : List R} {B : Nat} (hw : w.heap.size < B) (h0 : B0 ≤ w.heap.size) (hg : g < B) (hs : 0 < K → gs < B) : Far B (RunI w B0 g gs K A2 kc f xs r out) := by
  intro k W W' row ⟨i0, i1, i2, i3, i4⟩ hgr hr
  have hne : ∀ i, i < B → some i ≠ row := fun i hi e => by have := hr i e.symm; omega
  exact ⟨i0, Held.keep_cells i1 hgr (hne _ hw), i2.grown hgr (hne _ hg), fun h => (i3 h).grown hgr (hne _ (hs h)), i4.grown hgr (Nat.le_trans h0 (by have := (Array.getElem?_eq_some_iff.1 i1).1; omega)) (fun r e => by have := hr r e; omega)⟩
set_option maxRecDepth 100000 in
set_option maxHeartbeats 8000000 in
theorem run_any (B0 B Bz g gs : Nat) (A Ag A2 : Option Addr) (n_ c_ m mc K kc : Nat) (xs : List O) (zs : List Int) (f : Int) (out : List R) (w : World) (h : Lst kO w B A n_ xs) (hz : Ints w .i64 Bz Ag m zs) (hB : B ≤ B0) (hB0g : B0 ≤ g) (hB0w : B0 ≤ w.heap.size) (hBz : Bz ≤ w.heap.size) (hm0 : 0 < m) (hm8 : m ≤ 8)
    (qm : Blk w g 105 (mach (List.replicate 8 0) (.slice A2 K kc) f)) (hS : 0 < K → A2 = some ⟨gs, 0, none⟩ ∧ Blk w gs 51 (flat kR out).toArray ∧ gs ≠ g ∧ B0 ≤ gs) (hol : out.length = K) (hmay : mayP xs K = true) :
    Calls Tryd.prog 67 #[.pointer (some ⟨g, 0, none⟩), .slice A n_ c_, .slice Ag m mc] w fun e w' => (∃ v, e = .returned v) ∧ Blk w' g 105 (mach (runR xs (zs ++ List.replicate (8 - m) 0)) (.slice A2 K kc) f) ∧ (0 < K → Blk w' gs 51 (flat kR (runOut f xs (zs ++ List.replicate (8 - m) 0) out)).toArray) ∧ Below B0 w w' := by
  obtain ⟨hlen, hall⟩ : xs.length ≤ 40 ∧ xs.all (mayO · K) = true := by
    unfold mayP at hmay
    rw [Bool.and_eq_true, decide_eq_true_eq] at hmay
    exact hmay
  have hn40 : n_ ≤ 40 := by rw [← h.1]; exact hlen
  have HMAY := Lib.hid (fun x hx => List.all_eq_true.1 hall x hx)
  have hgw := qm.lt
  have hgsw : 0 < K → gs < w.heap.size := fun h0 => (hS h0).2.1.lt
  have hit := fun M bx w6 hx hSx hI hB6 hSB => ops_stop M bx (fun b => b = g ∨ (0 < K ∧ b = gs)) B A n_ c_ xs w6 hn40 hx hSx hI hB6 hSB
  have HW := Lib.hid h.2.1
  obtain ⟨r, hr⟩ : ∃ r, zs ++ List.replicate (8 - m) 0 = r := ⟨_, rfl⟩
  have hrl : r.length = 8 := by rw [← hr, List.length_append, hz.1, List.length_replicate]; omega
  have hfit : Fit r := fun z hz' => by
    rw [← hr] at hz'
    rcases List.mem_append.1 hz' with h1 | h1
    · exact hz.2.1 z h1
    · rw [List.eq_of_mem_replicate h1]; rfl
  have HR := Lib.hid (show (zs.map (Value.int .i64) ++ (mach (List.replicate 8 0) (.slice A2 K kc) f).toList.drop m).toArray = mach r (.slice A2 K kc) f by
    rw [← hr]
    simp only [mach]
    rw [List.drop_append_of_le_length (by simp; omega), List.map_append, ← List.map_drop, List.drop_replicate, List.append_assoc])
  rw [hr]
  clear hr
  have hms := mach_size (r := List.replicate 8 0) (by simp) (.slice A2 K kc) f
  refine (callsIn_wide (n := 3)).1 ?_
  refine callsIn_of_wp_marks Tryd.func67 rfl trivial ?_ rfl
  simp only [Tryd.ntmps67, List.size_toArray, List.length_cons, List.length_nil, Nat.reduceAdd, Nat.reduceSub, Array.replicate_succ, Array.replicate_zero, List.push_toArray, List.append_toArray, List.nil_append, List.cons_append]
  refine wpIn_wide.2 ?_
  go_wp2_with (refine Held.wpList_box_cell (w := w) rfl 129 _ rfl (.pointer (some ⟨g, 0, none⟩)) rfl rfl ?_; intro w1 q1 g1 z1; have cb1 := cell_of_one q1)
  refine wp_scope_straight ?_
  have hsl : ∀ W, (Instr.sliceAt 75 (.pointer (some ⟨g, 0, none⟩)) none none none).run Tryd.prog W = .ok (.slice (some ⟨g, 0, none⟩) 8 8) W := fun W => run_slice_arr_all (P := Tryd.prog) 75 2 8 g W Tryd.underlying75 (by kernel_rfl) (by omega)
  have b1 : Below B0 w w1 := (Below.refl B0 w).grown g1 hB0w (by simp)
  have qm1 := qm.grown g1 (by simp)
  have hz1 := hz.below (((Below.refl w.heap.size w).grown g1 (Nat.le_refl _) (by simp)).mono hBz)
  obtain ⟨w2, hrun, q2, g2⟩ := run_copy_head (P := Tryd.prog) w1 130 130 3 2 Tryd.underlying130 (by kernel_rfl) g 8 8 Bz m mc Ag 105 _ .i64 zs qm1 hz1 hm8 hm0 (by rw [hms]; omega)
  rw [HR.out] at q2
  go_wp2_with (first
    | (refine wpList_run (w := w1) rfl (v := .pointer (some ⟨g, 0, none⟩)) (Sl.y_nil (S := fun _ => True) rfl rfl _ trivial) ?_)
    | (refine wpList_run (w := w1) rfl (v := .pointer (some ⟨g, 0, none⟩)) (Held.y_field (S := fun _ => True) (k := 0) (s := 7) rfl rfl Tryd.underlying105 rfl (by kernel_rfl) rfl _ trivial) ?_)
    | (refine wpList_run (w := w1) rfl (v := .slice (some ⟨g, 0, none⟩) 8 8) (Held.y_slice (S := fun _ => True) rfl hsl _ trivial) ?_))
  apply wp_label
  have hgne : g ≠ w.heap.size := by omega
  have lw1 : w.heap.size < w1.heap.size := (Array.getElem?_eq_some_iff.1 q1).1
  have s2 := g2.size
  have k2 : RunI w B0 g gs K A2 kc f xs r out 0 w2 := ⟨Nat.zero_le _, Held.keep_cells q1 g2 (by simpa using hgne.symm), q2, fun h0 => ((hS h0).2.1.grown g1 (by simp)).grown g2 (by simpa using (hS h0).2.2.1), b1.grown g2 (Nat.le_trans hB0w (Nat.le_of_lt lw1)) (fun r e => by cases e; exact hB0g)⟩
  have hne := fun h0 => (hS h0).2.2.1
  have hA2 := fun h0 => (hS h0).1
  have hB0s := fun h0 => (hS h0).2.2.2
  have HOUT0 := Lib.hid hol
  clear hS hsl hrun q1 g1 z1 cb1 qm1 hz1 q2 g2 hms HR hol hz qm hBz
  go_wp2_with fail
  refine (ops_any A n_ c_ w2).mono ?_
  rintro e w3 ⟨bx, rfl, qx, hbx, b3⟩
  have k3 : RunI w B0 g gs K A2 kc f xs r out 0 w3 := RunI.far (B := w2.heap.size) (by omega) hB0w (by omega) (fun h0 => by have := hgsw h0; omega) 0 w2 w3 none k2 (grown_of_below b3 none) (fun r e => by cases e)
  have l3 : w.heap.size < w3.heap.size := by have := b3.size; omega
  have c3 : Below B0 w w3 := k3.2.2.2.2
  have hit := fun M => hit M bx w3 (qx.cell rfl) (fun e => by rcases e with e | ⟨h0, e⟩; (· omega); (· have := hgsw h0; omega)) (h.below (c3.mono hB)) (Nat.le_trans (Nat.le_trans hB hB0w) (Nat.le_of_lt l3)) (fun b hb e => by rcases e with e | ⟨h0, e⟩; (· omega); (· have := hB0s h0; omega))
  clear k2 b3 qx hbx b1
  go_wp2_with fail
  refine (wpIn_wide (n := 3)).1 ?_
  refine wpIn_rangeFunc_stop rfl (by omega) (gf := 81) (lb := #[.pointer (some ⟨bx, 0, none⟩)]) rfl trivial (enters_of Tryd.func81 (by kernel_rfl) rfl)
    (hit _) (fun h k => h.trans k) (fun W l o o' hl ho hc _ => Only.put W l o o' ho hc) (Below.refl _ _) (fun _ => rfl)
    (xs.length + 1) (RunI w B0 g gs K A2 kc f xs r out) (fun _ _ _ => False) (RunI.far (by omega) hB0w (by omega) (fun h0 => by have := hgsw h0; omega)) (fun _ _ _ _ _ h _ _ => h) (fun k W h => by have := h.1; omega) k3
    (fun x a' i W => RunI w B0 g gs K A2 kc f xs r out i W ∧ ∃ p, w.heap.size < p ∧ Blk W p 58 #[.int .i64 x.code, .int .i64 x.d, .int .i64 x.a, .int .i64 x.b, .int .i64 x.c, .int .i64 x.n] ∧ a' = { tmps := #[.pointer (some ⟨g, 0, none⟩), .slice A n_ c_, .slice Ag m mc, .pointer (some ⟨w.heap.size, 0, none⟩), undef, undef, .pointer (some ⟨p, 0, none⟩), undef, undef, undef, .pointer (some ⟨g, 0, none⟩), .pointer (some ⟨g, 0, none⟩), .pointer (some ⟨g, 0, none⟩), .slice (some ⟨g, 0, none⟩) 8 8, .slice Ag m mc, .int .i64 (m : Int), .slice A n_ c_, .func (.func 81) #[] #[.pointer (some ⟨bx, 0, none⟩)], .agg #[.int .i64 x.code, .int .i64 x.d, .int .i64 x.a, .int .i64 x.b, .int .i64 x.c, .int .i64 x.n], undef, undef, undef, undef, undef, undef, undef, undef, undef, undef, undef, undef, undef, undef, undef, undef, undef, undef, undef, undef, undef, undef, undef, undef, undef, undef, undef, undef, undef, undef, undef, undef, undef, undef, undef, undef, undef, undef, undef, undef, undef, undef, undef, undef, undef, undef, undef, undef, undef, undef, undef, undef, undef], defers := [] }) ?ib ?assign ?body ?done ?stop
  case ib =>
    rintro x a' i W W' row ⟨hi, p, hp, hr, h3⟩ hgr hrow
    exact ⟨RunI.far (B := w3.heap.size) (by omega) hB0w (by omega) (fun h0 => by have := hgsw h0; omega) i W W' row hi hgr (fun r e => (hrow r e).1), p, hp, blk_own hr hgr hrow, h3⟩
  case assign =>
    intro l i x W K' hi hat hsz hK
    simp only [encO, Held.zip_one, List.setIfInBounds_toArray, List.set_cons_zero, List.set_cons_succ]
    gi_wp2_with (first
      | (refine Held.wpListIn_one (r := some l) rfl (by intro c e; cases e) ?_; refine wpList_alloc_blk (w := W) rfl 58 rfl _ zero_op ?_; intro v2 q2 g2 z2; refine wpList_nil ⟨rfl, ?_⟩)
      | (refine Held.wpListIn_one (r := some l) rfl (by intro c e; cases e) ?_; refine wpList_store_blk (w := v2) rfl 58 _ _ rfl W.heap.size 6 rfl 58 _ #[.int .i64 x.code, .int .i64 x.d, .int .i64 x.a, .int .i64 x.b, .int .i64 x.c, .int .i64 x.n] rfl q2 size_op rfl rfl (by kernel_rfl) ?_; intro v3 q3 g3 z3; refine wpList_nil ⟨rfl, ?_⟩))
    have b3 : Below W.heap.size W v3 := ((Below.refl _ W).grown g2 (Nat.le_refl _) (by simp)).grown g3 g2.size (fun r e => by cases e; exact Nat.le_refl _)
    exact hK _ _ ((Held.others_of_new g2).trans (Held.others_of_grown q2 g3)) (Only.of_below b3) ⟨RunI.far (B := W.heap.size) (by omega) hB0w (by omega) (fun h0 => by have := hgsw h0; omega) i _ _ none hi (grown_of_below b3 none) (fun r e => by cases e), W.heap.size, by omega, q3, rfl⟩
  case body =>
    rintro l i x a' W hl hrec ⟨⟨i0, i1, i2, i3, i4⟩, p, hp, hr, rfl⟩ hat hsz
    obtain ⟨hks, hx⟩ := atO_some hat
    have hxi : x ∈ xs := by rw [hx, List.getD_eq_getElem?_getD, List.getElem?_eq_getElem hks]; exact List.getElem_mem _
    obtain ⟨hc1, hc12, ⟨hd0, hd8⟩, ⟨ha0, ha8⟩, ⟨hb0, hb8⟩, ⟨hcc0, hcc8⟩, he⟩ := mayO_says (HMAY.out x hxi)
    have hnw := (HW.out x hxi).2.2.2.2.2
    have HSR := Lib.hid (show runR (xs.take (i + 1)) r = stepR x (runR (xs.take i) r) by rw [runR_snoc xs r hks, ← hx])
    have HSO := Lib.hid (show runOut f (xs.take (i + 1)) r out = stepOut f x (runR (xs.take i) r) (runOut f (xs.take i) r out) by rw [runOut_snoc f xs r out hks, ← hx])
    have HRL := Lib.hid (show (runR (xs.take i) r).length = 8 by rw [runR_length, hrl])
    have HRF := Lib.hid (show Fit (runR (xs.take i) r) from Fit.run hfit (fun o ho => HW.out o (List.mem_of_mem_take ho)))
    have HOL := Lib.hid (show (runOut f (xs.take i) r out).length = K by rw [runOut_length, HOUT0.out])
    generalize runR (xs.take i) r = REGS at HSR HSO HRL HRF i2
    generalize runOut f (xs.take i) r out = OUT at HSO HOL i3
    obtain ⟨code, d, ra, rb, rc, n⟩ := x
    dsimp only at hc1 hc12 hd0 hd8 ha0 ha8 hb0 hb8 hcc0 hcc8 he hnw hr ⊢
    obtain ⟨nd, rfl⟩ : ∃ nd : Nat, d = (nd : Int) := ⟨d.toNat, by omega⟩
    obtain ⟨na, rfl⟩ : ∃ na : Nat, ra = (na : Int) := ⟨ra.toNat, by omega⟩
    obtain ⟨nb, rfl⟩ : ∃ nb : Nat, rb = (nb : Int) := ⟨rb.toNat, by omega⟩
    obtain ⟨nc, rfl⟩ : ∃ nc : Nat, rc = (nc : Int) := ⟨rc.toNat, by omega⟩
    have hnd : nd < 8 := by omega
    have hna : na < 8 := by omega
    have hnb : nb < 8 := by omega
    have hnc : nc < 8 := by omega
    have cla := i2.cell (mach_get HRL.out (.slice A2 K kc) f hna)
    have clb := i2.cell (mach_get HRL.out (.slice A2 K kc) f hnb)
    have clc := i2.cell (mach_get HRL.out (.slice A2 K kc) f hnc)
    have cl8 := i2.cell (mach_8 HRL.out (.slice A2 K kc) f)
    have cl9 := i2.cell (mach_9 HRL.out (.slice A2 K kc) f)
    have hva := HRF.out.at_ na
    have hvb := HRF.out.at_ nb
    have hvc := HRF.out.at_ nc
    have HVA := Lib.hid (show reg REGS (na : Int) = REGS.getD na 0 by simp [reg])
    have HVB := Lib.hid (show reg REGS (nb : Int) = REGS.getD nb 0 by simp [reg])
    have HVC := Lib.hid (show reg REGS (nc : Int) = REGS.getD nc 0 by simp [reg])
    generalize REGS.getD na 0 = va at HVA hva cla
    generalize REGS.getD nb 0 = vb at HVB hvb clb
    generalize REGS.getD nc 0 = vc at HVC hvc clc
    have cbx := cell_of_one i1
    have hgl := i2.lt
    have hlb : w.heap.size < W.heap.size := (Array.getElem?_eq_some_iff.1 i1).1
    clear hat hrec hit hx hxi hd0 hd8 ha0 ha8 hb0 hb8 hcc0 hcc8
    gi_wp2_with fail
    refine Held.wpIn_region_heldR (r := some l) (S := fun V => Below W.heap.size W V) rfl (by kernel_rfl) (by kernel_rfl) (by intro a w h; exact h) ?_
    change wpAnyH _ _ _ _ _ _ _ _ W.drew
    have c0_0 := (Below.refl W.heap.size W).drew
    refine Held.tk (v := .pointer (some ⟨g, 0, none⟩)) 0 (some 19) rfl (Held.y_load rfl rfl (by kernel_rfl) (fun W hW => (hW.cell (p := ⟨w.heap.size, 0, none⟩) hlb).trans cbx)) c0_0 ?_
    simp only [Act.put, Z1, Z2, Z3]
    refine Held.tk (v := .pointer (some ⟨p, 2, none⟩)) 1 (some 20) rfl (Held.y_field (k := 2) (s := 0) rfl rfl Tryd.underlying58 rfl (by kernel_rfl) rfl) c0_0 ?_
    simp only [Act.put, Z1, Z2, Z3]
    refine Held.tk (v := .int .i64 (na : Int)) 2 (some 21) rfl (Held.y_load rfl rfl (by kernel_rfl) (fun W hW => (hr.below hW hr.lt).cell rfl)) c0_0 ?_
    simp only [Act.put, Z1, Z2, Z3]
    refine Held.tk (v := .pointer (some ⟨g, 0, none⟩)) 3 (some 22) rfl (Sl.y_nil rfl rfl) c0_0 ?_
    simp only [Act.put, Z1, Z2, Z3]
    refine Held.tk (v := .pointer (some ⟨g, 0, none⟩)) 4 (some 23) rfl (Held.y_field (k := 0) (s := 7) rfl rfl Tryd.underlying105 rfl (by kernel_rfl) rfl) c0_0 ?_
    simp only [Act.put, Z1, Z2, Z3]
    refine Held.tk (v := .pointer (some ⟨g, na, none⟩)) 5 (some 24) rfl (Held.y_addr rfl rfl rfl (fun W => Held.run_addr_arr 75 2 8 g na .i64 Tryd.underlying75 (by kernel_rfl) hna W)) c0_0 ?_
    simp only [Act.put, Z1, Z2, Z3]
    refine Held.tk (v := .int .i64 va) 6 (some 25) rfl (Held.y_load rfl rfl (by kernel_rfl) (fun W hW => (hW.cell (p := ⟨g, na, none⟩) hgl).trans cla)) c0_0 ?_
    simp only [Act.put, Z1, Z2, Z3]
    refine Held.tk (v := .pointer (some ⟨g, 0, none⟩)) 7 (some 26) rfl (Held.y_load rfl rfl (by kernel_rfl) (fun W hW => (hW.cell (p := ⟨w.heap.size, 0, none⟩) hlb).trans cbx)) c0_0 ?_
    simp only [Act.put, Z1, Z2, Z3]
    refine Held.tk (v := .pointer (some ⟨p, 3, none⟩)) 8 (some 27) rfl (Held.y_field (k := 3) (s := 0) rfl rfl Tryd.underlying58 rfl (by kernel_rfl) rfl) c0_0 ?_
    simp only [Act.put, Z1, Z2, Z3]
    refine Held.tk (v := .int .i64 (nb : Int)) 9 (some 28) rfl (Held.y_load rfl rfl (by kernel_rfl) (fun W hW => (hr.below hW hr.lt).cell rfl)) c0_0 ?_
    simp only [Act.put, Z1, Z2, Z3]
    refine Held.tk (v := .pointer (some ⟨g, 0, none⟩)) 10 (some 29) rfl (Sl.y_nil rfl rfl) c0_0 ?_
    simp only [Act.put, Z1, Z2, Z3]
    refine Held.tk (v := .pointer (some ⟨g, 0, none⟩)) 11 (some 30) rfl (Held.y_field (k := 0) (s := 7) rfl rfl Tryd.underlying105 rfl (by kernel_rfl) rfl) c0_0 ?_
    simp only [Act.put, Z1, Z2, Z3]
    refine Held.tk (v := .pointer (some ⟨g, nb, none⟩)) 12 (some 31) rfl (Held.y_addr rfl rfl rfl (fun W => Held.run_addr_arr 75 2 8 g nb .i64 Tryd.underlying75 (by kernel_rfl) hnb W)) c0_0 ?_
    simp only [Act.put, Z1, Z2, Z3]
    refine Held.tk (v := .int .i64 vb) 13 (some 32) rfl (Held.y_load rfl rfl (by kernel_rfl) (fun W hW => (hW.cell (p := ⟨g, nb, none⟩) hgl).trans clb)) c0_0 ?_
    simp only [Act.put, Z1, Z2, Z3]
    refine Held.tk (v := .pointer (some ⟨g, 0, none⟩)) 14 (some 33) rfl (Held.y_load rfl rfl (by kernel_rfl) (fun W hW => (hW.cell (p := ⟨w.heap.size, 0, none⟩) hlb).trans cbx)) c0_0 ?_
    simp only [Act.put, Z1, Z2, Z3]
    refine Held.tk (v := .pointer (some ⟨p, 4, none⟩)) 15 (some 34) rfl (Held.y_field (k := 4) (s := 0) rfl rfl Tryd.underlying58 rfl (by kernel_rfl) rfl) c0_0 ?_
    simp only [Act.put, Z1, Z2, Z3]
    refine Held.tk (v := .int .i64 (nc : Int)) 16 (some 35) rfl (Held.y_load rfl rfl (by kernel_rfl) (fun W hW => (hr.below hW hr.lt).cell rfl)) c0_0 ?_
    simp only [Act.put, Z1, Z2, Z3]
    refine Held.tk (v := .pointer (some ⟨g, 0, none⟩)) 17 (some 36) rfl (Sl.y_nil rfl rfl) c0_0 ?_
    simp only [Act.put, Z1, Z2, Z3]
    refine Held.tk (v := .pointer (some ⟨g, 0, none⟩)) 18 (some 37) rfl (Held.y_field (k := 0) (s := 7) rfl rfl Tryd.underlying105 rfl (by kernel_rfl) rfl) c0_0 ?_
    simp only [Act.put, Z1, Z2, Z3]
    refine Held.tk (v := .pointer (some ⟨g, nc, none⟩)) 19 (some 38) rfl (Held.y_addr rfl rfl rfl (fun W => Held.run_addr_arr 75 2 8 g nc .i64 Tryd.underlying75 (by kernel_rfl) hnc W)) c0_0 ?_
    simp only [Act.put, Z1, Z2, Z3]
    refine Held.tk (v := .int .i64 vc) 20 (some 39) rfl (Held.y_load rfl rfl (by kernel_rfl) (fun W hW => (hW.cell (p := ⟨g, nc, none⟩) hgl).trans clc)) c0_0 ?_
    simp only [Act.put, Z1, Z2, Z3]
    refine Held.tk (v := .int .i64 va) 21 (some 7) rfl (Held.y_assign rfl rfl) c0_0 ?_
    simp only [Act.put, Z1, Z2, Z3]
    refine Held.tk (v := .int .i64 vb) 22 (some 8) rfl (Held.y_assign rfl rfl) c0_0 ?_
    simp only [Act.put, Z1, Z2, Z3]
    refine Held.tk (v := .int .i64 vc) 23 (some 9) rfl (Held.y_assign rfl rfl) c0_0 ?_
    simp only [Act.put, Z1, Z2, Z3]
    refine wpAnyH_done (by kernel_rfl) ?_ _
    obtain ⟨V, hV⟩ : ∃ V, V = W.drew := ⟨_, rfl⟩
    have kV : KeepsOthers W V := hV ▸ Held.others_of_new (grown_of_below c0_0 none)
    have oV : Only (fun b => b = g ∨ (0 < K ∧ b = gs)) W V := hV ▸ Only.of_below c0_0
    have i1 : V.heap[w.heap.size]? = some (.cells #[.pointer (some ⟨g, 0, none⟩)] 129 (0, 0)) := hV ▸ i1
    have i2 : Blk V g 105 (mach REGS (.slice A2 K kc) f) := hV ▸ i2
    have i3 : 0 < K → Blk V gs 51 (flat kR OUT).toArray := hV ▸ i3
    have i4 : Below B0 w V := hV ▸ i4.drew
    have hr : Blk V p 58 #[.int .i64 code, .int .i64 (nd : Int), .int .i64 (na : Int), .int .i64 (nb : Int), .int .i64 (nc : Int), .int .i64 n] := hV ▸ hr
    have cl8 : V.cell? ⟨g, 8, none⟩ = some (.slice A2 K kc) := hV ▸ cl8
    have cl9 : V.cell? ⟨g, 9, none⟩ = some (.int .i64 f) := hV ▸ cl9
    have cbx : V.cell? ⟨w.heap.size, 0, none⟩ = some (.pointer (some ⟨g, 0, none⟩)) := hV ▸ cbx
    rw [← hV]
    clear c0_0 hV hgl hlb cla clb clc
    have hcode := hr.cell (i := 0) rfl
    have hpg : ¬ p = g := by omega
    have hnbg : ¬ w.heap.size = g := fun e => hgne e.symm
    have hnpg := hpg
    have hBW : B0 ≤ V.heap.size := Nat.le_trans hB0w i4.size
    by_cases h12 : code = 12
    · subst h12
      obtain ⟨hn0, hnK⟩ := he rfl
      obtain ⟨nn, rfl⟩ : ∃ nn : Nat, n = (nn : Int) := ⟨n.toNat, by omega⟩
      have hnn : nn < K := by omega
      have hK0 : 0 < K := by omega
      have hsg := hgsw hK0
      obtain rfl := hA2 hK0
      have hngs : ¬ g = gs := fun e => hne hK0 e.symm
      have hnps : ¬ p = gs := by omega
      have hnbs : ¬ w.heap.size = gs := by omega
      have hB0gs := hB0s hK0
      have qs := i3 hK0
      gi_wp2_with (refine Held.wpListIn_one (r := some l) rfl (by intro c e; cases e) ?_; refine wpList_run (w := V) rfl (v := .pointer (some ⟨p, 0, none⟩)) (Held.y_field (S := fun _ => True) (k := 0) (s := 0) rfl rfl Tryd.underlying58 rfl (by kernel_rfl) rfl _ trivial) ?_; refine wpList_nil ⟨rfl, ?_⟩)
      refine Held.wpIn_region_heldR (r := some l) (S := fun X => Only (fun b => b = gs) V X) rfl (by kernel_rfl) (by kernel_rfl) (by intro a w h; exact h) ?_
      change wpAnyH _ _ _ _ _ _ _ _ V.drew
      have c0_0 : Only (fun b => b = gs) V V.drew := ⟨Nat.le_refl _, fun _ _ _ h _ => h⟩
      refine Held.tk (v := .pointer (some ⟨g, 0, none⟩)) 0 (some 43) rfl (Held.y_load rfl rfl (by kernel_rfl) (fun W hW => hW.cell (p := ⟨w.heap.size, 0, none⟩) hnbs cbx)) c0_0 ?_
      simp only [Act.put, Z1, Z2, Z3]
      refine Held.tk (v := .pointer (some ⟨g, 0, none⟩)) 1 (some 44) rfl (Sl.y_nil rfl rfl) c0_0 ?_
      simp only [Act.put, Z1, Z2, Z3]
      refine Held.tk (v := .pointer (some ⟨g, 8, none⟩)) 2 (some 45) rfl (Held.y_field (k := 8) (s := 0) rfl rfl Tryd.underlying105 rfl (by kernel_rfl) rfl) c0_0 ?_
      simp only [Act.put, Z1, Z2, Z3]
      refine Held.tk (v := .slice (some ⟨gs, 0, none⟩) K kc) 3 (some 46) rfl (Held.y_load rfl rfl (by kernel_rfl) (fun W hW => hW.cell (p := ⟨g, 8, none⟩) hngs cl8)) c0_0 ?_
      simp only [Act.put, Z1, Z2, Z3]
      refine Held.tk (v := .pointer (some ⟨p, 5, none⟩)) 4 (some 47) rfl (Held.y_field (k := 5) (s := 0) rfl rfl Tryd.underlying58 rfl (by kernel_rfl) rfl) c0_0 ?_
      simp only [Act.put, Z1, Z2, Z3]
      refine Held.tk (v := .int .i64 (nn : Int)) 5 (some 48) rfl (Held.y_load rfl rfl (by kernel_rfl) (fun W hW => (only_blk hW hnps hr).cell rfl)) c0_0 ?_
      simp only [Act.put, Z1, Z2, Z3]
      refine Held.tk (v := .int .i64 va) 6 (some 49) rfl (Held.y_move rfl rfl) c0_0 ?_
      simp only [Act.put, Z1, Z2, Z3]
      refine Held.tk (v := .int .i64 vb) 7 (some 50) rfl (Held.y_move rfl rfl) c0_0 ?_
      simp only [Act.put, Z1, Z2, Z3]
      refine Held.tk (v := .int .i64 vc) 8 (some 51) rfl (Held.y_move rfl rfl) c0_0 ?_
      simp only [Act.put, Z1, Z2, Z3]
      refine Held.tk (v := .pointer (some ⟨g, 0, none⟩)) 9 (some 52) rfl (Held.y_load rfl rfl (by kernel_rfl) (fun W hW => hW.cell (p := ⟨w.heap.size, 0, none⟩) hnbs cbx)) c0_0 ?_
      simp only [Act.put, Z1, Z2, Z3]
      refine Held.tk (v := .pointer (some ⟨g, 0, none⟩)) 10 (some 53) rfl (Sl.y_nil rfl rfl) c0_0 ?_
      simp only [Act.put, Z1, Z2, Z3]
      refine Held.tk (v := .pointer (some ⟨g, 9, none⟩)) 11 (some 54) rfl (Held.y_field (k := 9) (s := 0) rfl rfl Tryd.underlying105 rfl (by kernel_rfl) rfl) c0_0 ?_
      simp only [Act.put, Z1, Z2, Z3]
      refine Held.tk (v := .int .i64 f) 12 (some 55) rfl (Held.y_load rfl rfl (by kernel_rfl) (fun W hW => hW.cell (p := ⟨g, 9, none⟩) hngs cl9)) c0_0 ?_
      simp only [Act.put, Z1, Z2, Z3]
      refine Held.tk (v := .pointer (some ⟨p, 5, none⟩)) 13 (some 56) rfl (Held.y_field (k := 5) (s := 0) rfl rfl Tryd.underlying58 rfl (by kernel_rfl) rfl) c0_0 ?_
      simp only [Act.put, Z1, Z2, Z3]
      refine Held.tk (v := .int .i64 (nn : Int)) 14 (some 57) rfl (Held.y_load rfl rfl (by kernel_rfl) (fun W hW => (only_blk hW hnps hr).cell rfl)) c0_0 ?_
      simp only [Act.put, Z1, Z2, Z3]
      refine Held.tk (v := .int .i64 (wrap64 (f + (nn : Int)))) 15 (some 58) rfl (Held.y_int rfl rfl rfl (Held.run_add 2 .i64 (w64 _))) c0_0 ?_
      simp only [Act.put, Z1, Z2, Z3]
      refine Held.one 16 (by kernel_rfl) ?_
      refine Held.op_call 16 (some 59) 86 #[.int .i64 va, .int .i64 vb, .int .i64 vc, .int .i64 (wrap64 (f + (nn : Int)))] rfl rfl rfl rfl (enters_of Tryd.func86 (by kernel_rfl) rfl) (by simp [Act.eval])
        (emitted_any va vb vc (wrap64 (f + (nn : Int))) _ hva hvb hvc (wrap64_wf _)) ?_
      rintro e w1 ⟨rfl, b1⟩
      have c0_1 := c0_0.trans (Only.of_below b1)
      refine ⟨_, rfl, c0_1, ?_⟩
      simp only [Act.put, Z1, Z2, Z3]
      refine Held.tk (v := .pointer (some ⟨gs, 0 + nn * 4, none⟩)) 17 (some 60) rfl (Held.y_addr rfl rfl rfl (run_addr_of (P := Tryd.prog) 48 51 gs 0 K kc nn 4 .i64 Tryd.underlying48 size_rec hnn)) c0_1 ?_
      simp only [Act.put, Z1, Z2, Z3]
      refine Held.one 18 (by kernel_rfl) ?_
      refine op_store_lst (k := kR) 18 none 51 gs (0 + nn * 4) nn 51 OUT (emV va vb vc (wrap64 (f + (nn : Int)))) rfl rfl rfl rfl (by rw [Nat.zero_add]; rfl) rfl rfl (qs.drew.after b1) (by rw [HOL.out]; exact hnn) size_rec ?_
      intro w2 q2 g2
      have c0_2 := c0_1.trans (Only.of_grown g2 (fun r e => by cases e; rfl))
      refine ⟨c0_2, ?_⟩
      simp only [Act.put]
      refine wpAnyH_done (by kernel_rfl) ?_ _
      have HE := Lib.hid (show emV va vb vc (wrap64 (f + (nn : Int))) = emitR f ⟨12, nd, na, nb, nc, nn⟩ REGS by rw [← emV_emitR]; simp only [HVA.out, HVB.out, HVC.out])
      rw [HE.out] at q2
      gi_wp2_with fail
      have bV := ((Below.refl V.heap.size V).drew).trans b1
      have kA := Held.others_of_new (grown_of_below bV none)
      have kB := Held.others_of_grown (qs.drew.after b1) g2
      have b2 : Below B0 w w2 := ((i4.drew).trans (b1.mono hBW)).grown g2 (Nat.le_trans hBW b1.size) (fun r e => by cases e; exact hB0gs)
      refine ⟨kV.trans (kA.trans kB), oV.trans ((Only.of_below bV).trans (Only.of_grown g2 (fun r e => by cases e; exact .inr ⟨hK0, rfl⟩))), by omega, ?_, ?_, ?_, b2⟩
      · exact Held.keep_cells ((b1.block _ (Array.getElem?_eq_some_iff.1 i1).1).trans i1) g2 (by simpa using hnbs)
      · rw [HSR.out]
        exact (i2.drew.after b1).grown g2 (by simpa using hngs)
      · intro _
        rw [HSO.out]
        exact q2
    · have hc11 : code ≤ 11 := by omega
      gi_wp2_with (refine Held.wpListIn_one (r := some l) rfl (by intro c e; cases e) ?_; refine wpList_run (w := V) rfl (v := .pointer (some ⟨p, 0, none⟩)) (Held.y_field (S := fun _ => True) (k := 0) (s := 0) rfl rfl Tryd.underlying58 rfl (by kernel_rfl) rfl _ trivial) ?_; refine wpList_nil ⟨rfl, ?_⟩)
      have qg := i2
      refine Held.wpIn_region_heldR (r := some l) (S := fun X => Only (fun b => b = g) V X) rfl (by kernel_rfl) (by kernel_rfl) (by intro a w h; exact h) ?_
      change wpAnyH _ _ _ _ _ _ _ _ V.drew
      have c0_0 : Only (fun b => b = g) V V.drew := ⟨Nat.le_refl _, fun _ _ _ h _ => h⟩
      refine Held.tk (v := .pointer (some ⟨g, 0, none⟩)) 0 (some 61) rfl (Held.y_load rfl rfl (by kernel_rfl) (fun W hW => hW.cell (p := ⟨w.heap.size, 0, none⟩) hnbg cbx)) c0_0 ?_
      simp only [Act.put, Z1, Z2, Z3]
      refine Held.tk (v := .pointer (some ⟨p, 1, none⟩)) 1 (some 62) rfl (Held.y_field (k := 1) (s := 0) rfl rfl Tryd.underlying58 rfl (by kernel_rfl) rfl) c0_0 ?_
      simp only [Act.put, Z1, Z2, Z3]
      refine Held.tk (v := .int .i64 (nd : Int)) 2 (some 63) rfl (Held.y_load rfl rfl (by kernel_rfl) (fun W hW => (only_blk hW hnpg hr).cell rfl)) c0_0 ?_
      simp only [Act.put, Z1, Z2, Z3]
      refine Held.tk (v := .agg #[.int .i64 code, .int .i64 (nd : Int), .int .i64 (na : Int), .int .i64 (nb : Int), .int .i64 (nc : Int), .int .i64 n]) 3 (some 64) rfl (Held.y_load_blk (n := 6) rfl rfl Tryd.underlying58 rfl (by kernel_rfl) rfl (fun W hW => only_blk hW hnpg hr)) c0_0 ?_
      simp only [Act.put, Z1, Z2, Z3]
      refine Held.tk (v := .int .i64 va) 4 (some 65) rfl (Held.y_move rfl rfl) c0_0 ?_
      simp only [Act.put, Z1, Z2, Z3]
      refine Held.tk (v := .int .i64 vb) 5 (some 66) rfl (Held.y_move rfl rfl) c0_0 ?_
      simp only [Act.put, Z1, Z2, Z3]
      refine Held.tk (v := .int .i64 vc) 6 (some 67) rfl (Held.y_move rfl rfl) c0_0 ?_
      simp only [Act.put, Z1, Z2, Z3]
      refine Held.tk (v := .pointer (some ⟨g, 0, none⟩)) 8 (some 69) rfl (Sl.y_nil rfl rfl) c0_0 ?_
      simp only [Act.put, Z1, Z2, Z3]
      refine Held.tk (v := .pointer (some ⟨g, 0, none⟩)) 9 (some 70) rfl (Held.y_field (k := 0) (s := 7) rfl rfl Tryd.underlying105 rfl (by kernel_rfl) rfl) c0_0 ?_
      simp only [Act.put, Z1, Z2, Z3]
      refine Held.one 7 (by kernel_rfl) ?_
      refine Held.op_call 7 (some 68) 87 #[.agg #[.int .i64 code, .int .i64 (nd : Int), .int .i64 (na : Int), .int .i64 (nb : Int), .int .i64 (nc : Int), .int .i64 n], .int .i64 va, .int .i64 vb, .int .i64 vc] rfl rfl rfl rfl (enters_of Tryd.func87 (by kernel_rfl) rfl) (by simp [Act.eval])
        (result_any ⟨code, (nd : Int), (na : Int), (nb : Int), (nc : Int), n⟩ va vb vc _ hva hvb hvc hc1 hc11) ?_
      rintro e w1 ⟨rfl, b1⟩
      have c0_1 := c0_0.trans (Only.of_below b1)
      refine ⟨_, rfl, c0_1, ?_⟩
      simp only [Act.put, Z1, Z2, Z3]
      refine Held.tk (v := .pointer (some ⟨g, nd, none⟩)) 10 (some 71) rfl (Held.y_addr rfl rfl rfl (fun W => Held.run_addr_arr 75 2 8 g nd .i64 Tryd.underlying75 (by kernel_rfl) hnd W)) c0_1 ?_
      simp only [Act.put, Z1, Z2, Z3]
      refine Held.one 11 (by kernel_rfl) ?_
      refine op_store_cell 11 none 2 g nd 105 (mach REGS (.slice A2 K kc) f) (.int .i64 (opV ⟨code, (nd : Int), (na : Int), (nb : Int), (nc : Int), n⟩ va vb vc)) rfl rfl rfl rfl rfl rfl (qg.drew.after b1) (by rw [mach_size HRL.out]; omega) (by kernel_rfl) rfl rfl ?_
      intro w2 q2 g2
      have c0_2 := c0_1.trans (Only.of_grown g2 (fun r e => by cases e; rfl))
      refine ⟨c0_2, ?_⟩
      simp only [Act.put]
      refine wpAnyH_done (by kernel_rfl) ?_ _
      rw [mach_set HRL.out _ _ hnd] at q2
      gi_wp2_with fail
      have bV := ((Below.refl V.heap.size V).drew).trans b1
      have kA := Held.others_of_new (grown_of_below bV none)
      have kB := Held.others_of_grown (qg.drew.after b1) g2
      have b2 : Below B0 w w2 := ((i4.drew).trans (b1.mono hBW)).grown g2 (Nat.le_trans hBW b1.size) (fun r e => by cases e; exact hB0g)
      refine ⟨kV.trans (kA.trans kB), oV.trans ((Only.of_below bV).trans (Only.of_grown g2 (fun r e => by cases e; exact .inl rfl))), by omega, ?_, ?_, ?_, b2⟩
      · exact Held.keep_cells ((b1.block _ (Array.getElem?_eq_some_iff.1 i1).1).trans i1) g2 (by simpa using hnbg)
      · rw [HSR.out, stepR, if_neg h12, HVA.out, HVB.out, HVC.out, Int.toNat_natCast]
        exact q2
      · intro h0
        rw [HSO.out, stepOut, if_neg h12]
        exact ((i3 h0).drew.after b1).grown g2 (by simpa using hne h0)
  case done =>
    rintro D i W hD hat ⟨i0, i1, i2, i3, i4⟩ hDl
    obtain rfl : i = xs.length := by have := atO_none hat; omega
    rw [List.take_length] at i2 i3
    clear hat hit
    go_wp2_with fail
    refine ⟨by simp, .inl ⟨_, _, rfl, run_takeDeferred hDl, ?_⟩⟩
    exact ⟨_, results_none rfl _ _ _, ⟨_, rfl⟩, (World.putObj_heap_other (by omega)).trans i2, fun h0 => (World.putObj_heap_other (by have := hgsw h0; omega)).trans (i3 h0), i4.grown (grownBy_putObj' _ D _) (Nat.le_trans hB0w i4.size) (fun r e => by cases e; omega)⟩
  case stop =>
    rintro D c i W hD h _
    exact h.elim
end Go.Proofs.YtlinmcgmkpkpaaaDoor.Vm
namespace Go.Proofs.YtlinmcgmkpkpaaaDoor.Vm
open Go.RowKit Go.Shelf Go.Proofs.YtlinmcgmkpkpaaaDoor Mem Held Go.Proofs.YtlinmcgmkpkpaaaDoor.Range Rc Rs Sl
attribute [local irreducible] wpList wpListIn Calls
theorem zero_mach : (Tryd.prog.info? 105).bind (·.zero) = some (.agg (mach (List.replicate 8 0) (.slice none 0 0) 0)) := by kernel_rfl
theorem info_i64 : (Tryd.prog.info? 2).map (fun i => (i.zero, i.size, i.bytes)) = some (some (.int .i64 0), 1, 8) := by kernel_rfl
theorem checkB_says {K : Int} {m f e : List O} (h : checkB K m f e = true) : 1 ≤ K ∧ K ≤ 4 ∧ mayP m K = true ∧ mayP f 0 = true ∧ mayP e 0 = true := by
  simp only [checkB, Bool.and_eq_true, decide_eq_true_eq] at h
  exact ⟨h.1.1.1.1, h.1.1.1.2, h.1.1.2, h.1.2, h.2⟩
set_option maxRecDepth 100000 in
set_option maxHeartbeats 4000000 in
theorem fold_any (B : Nat) (K : Int) (A1 A2 A3 : Option Addr) (n1 c1 n2 c2 n3 c3 : Nat) (m f fi : List O) (x y : Int) (w : World) (hx : (Lit.int .i64 x).wf = true) (hy : (Lit.int .i64 y).wf = true) (h1 : Lst kO w B A1 n1 m) (h2 : Lst kO w B A2 n2 f) (h3 : Lst kO w B A3 n3 fi) (hB : B ≤ w.heap.size) :
    Calls Tryd.prog 99 #[.agg #[.int .i64 K, .slice A1 n1 c1, .slice A2 n2 c2, .slice A3 n3 c3], .int .i64 x, .int .i64 y] w fun e w' => e = .returned (.int .i64 (foldV K m f fi x y)) ∧ Below w.heap.size w w' := by
  go_enter Tryd.func99, Tryd.ntmps99
  by_cases hC : checkB K m f fi = true
  · obtain ⟨hK1, hK4, hmm, hmf, hme⟩ := checkB_says hC
    have HC := Lib.hid (show checkE K m f fi = 0 by rw [checkE, if_pos hC])
    have HV := Lib.hid (show foldV K m f fi x y = reg (runR f [x, y, 0, 0, 0, 0, 0, 0]) 0 by rw [foldV, if_pos hC])
    rw [HV.out]
    clear HV hmm hK1 hK4 hC
    go_wp2_with (first
      | (refine wpList_box_blk (w := w) rfl 26 _ rfl #[.int .i64 K, .slice A1 n1 c1, .slice A2 n2 c2, .slice A3 n3 c3] rfl ?_; intro w1 q1 g1 z1; have b1 : Below w.heap.size w w1 := (Below.refl _ w).grown g1 (Nat.le_refl _) (by simp); have L1 := h1.below (b1.mono hB); have L2 := h2.below (b1.mono hB); have L3 := h3.below (b1.mono hB); clear h1 h2 h3 g1 z1)
      | (refine wpList_load_blk (w := w1) rfl 26 _ rfl w.heap.size 4 rfl 26 _ q1 _ Tryd.underlying26 rfl info_prog rfl ?_))
    refine (check_any B K A1 A2 A3 n1 c1 n2 c2 n3 c3 m f fi w1 L1 L2 L3 (Nat.le_trans hB b1.size)).mono ?_
    rintro e w2 ⟨rfl, b2⟩
    rw [HC.out]
    have q2 := q1.after b2
    have LP := (L2).below (b2.mono (Nat.le_trans hB b1.size))
    have b2 := b1.trans (b2.mono b1.size)
    clear q1 b1 L1 L2 L3
    have hcP := q2.cell (i := 2) rfl
    have hl2 := q2.lt
    have HWF := Lib.hid (show ∀ z ∈ [x, y], (Lit.int .i64 z).wf = true from fun z hz => by
      rcases List.mem_cons.1 hz with rfl | hz
      · exact hx
      · rw [List.mem_singleton.1 hz]; exact hy)
    go_wp2_with (first
      | (refine wpList_alloc_blk (w := w2) rfl 105 rfl _ zero_mach ?_; intro w3 q3 g3 z3)
      | (refine wpList_run (w := w3) rfl (v := .pointer (some ⟨w.heap.size, 2, none⟩)) (Held.y_field (S := fun _ => True) (k := 2) (s := 0) rfl rfl Tryd.underlying26 rfl (by kernel_rfl) rfl _ trivial) ?_; have hcP3 := ((q2.grown g3 (by simp)).cell (i := 2) rfl))
      | (refine Held.wpList_build_row (w := w3) rfl 130 2 2 _ rfl .i64 8 [x, y] Tryd.underlying130 info_i64 (by simp [Act.eval]) rfl (by omega) (by omega) HWF.out ?_; intro w4 r4 g4 z4))
    have l3 : w2.heap.size < w3.heap.size := q3.lt
    have b3 : Below w2.heap.size w2 w3 := (Below.refl _ w2).grown g3 (Nat.le_refl _) (by simp)
    have b4 : Below w2.heap.size w2 w4 := b3.grown g4 (Nat.le_of_lt l3) (by simp)
    have q4 := q3.grown g4 (by simp)
    have LP4 := LP.below (b4.mono (Nat.le_trans hB b2.size))
    have b24 := b2.trans (b4.mono b2.size)
    have l4 : w3.heap.size < w4.heap.size := r4.lt
    refine (run_any w2.heap.size B w4.heap.size w2.heap.size 0 A2 (some ⟨w3.heap.size, 0, none⟩) none n2 c2 2 2 0 0 f [x, y] 0 [] w4 LP4 (r4.ints (by simp)) (Nat.le_trans hB b2.size) (Nat.le_refl _) b4.size (Nat.le_refl _) (by omega) (by omega) q4 (fun h => absurd h (by omega)) rfl hmf).mono ?_
    rintro e w5 ⟨⟨v, rfl⟩, q5, _, b5⟩
    have b5 := b24.trans (b5.mono b2.size)
    have hrl : (runR f ([x, y] ++ List.replicate (8 - 2) 0)).length = 8 := by rw [runR_length]; rfl
    have c5 := q5.cell (mach_get hrl _ _ (i := 0) (by omega))
    have HV := Lib.hid (show (runR f ([x, y] ++ List.replicate (8 - 2) 0)).getD 0 0 = reg (runR f [x, y, 0, 0, 0, 0, 0, 0]) 0 from rfl)
    generalize (runR f ([x, y] ++ List.replicate (8 - 2) 0)).getD 0 0 = z at HV c5
    clear q5 hrl q4 q3 LP4 r4 b4 b24 b3 b2 q2
    go_wp2_with (first
      | (refine wpList_run (w := w5) rfl (v := .pointer (some ⟨w2.heap.size, 0, none⟩)) (Held.y_field (S := fun _ => True) (k := 0) (s := 7) rfl rfl Tryd.underlying105 rfl (by kernel_rfl) rfl _ trivial) ?_)
      | (refine wpList_run (w := w5) rfl (v := .pointer (some ⟨w2.heap.size, 0, none⟩)) (Held.y_addr (S := fun _ => True) rfl rfl rfl (fun W => Held.run_addr_arr 75 2 8 w2.heap.size 0 .i64 Tryd.underlying75 (by kernel_rfl) (by omega) W) _ trivial) ?_))
    go_ret
    exact ⟨Mem.ret_int HV.out, b5⟩
  · have HC := Lib.hid (show checkE K m f fi = 8 by rw [checkE, if_neg hC])
    have HV := Lib.hid (show foldV K m f fi x y = 0 by rw [foldV, if_neg hC])
    rw [HV.out]
    clear HV hC
    go_wp2_with (first
      | (refine wpList_box_blk (w := w) rfl 26 _ rfl #[.int .i64 K, .slice A1 n1 c1, .slice A2 n2 c2, .slice A3 n3 c3] rfl ?_; intro w1 q1 g1 z1; have b1 : Below w.heap.size w w1 := (Below.refl _ w).grown g1 (Nat.le_refl _) (by simp); have L1 := h1.below (b1.mono hB); have L2 := h2.below (b1.mono hB); have L3 := h3.below (b1.mono hB); clear h1 h2 h3 g1 z1)
      | (refine wpList_load_blk (w := w1) rfl 26 _ rfl w.heap.size 4 rfl 26 _ q1 _ Tryd.underlying26 rfl info_prog rfl ?_))
    refine (check_any B K A1 A2 A3 n1 c1 n2 c2 n3 c3 m f fi w1 L1 L2 L3 (Nat.le_trans hB b1.size)).mono ?_
    rintro e w2 ⟨rfl, b2⟩
    rw [HC.out]
    have b2 := b1.trans (b2.mono b1.size)
    clear q1 b1 L1 L2 L3
    go_wp2_with fail
    go_ret
    exact ⟨rfl, b2⟩
set_option maxRecDepth 100000 in
set_option maxHeartbeats 4000000 in
theorem finish_any (B : Nat) (K : Int) (A1 A2 A3 : Option Addr) (n1 c1 n2 c2 n3 c3 : Nat) (m f fi : List O) (x y : Int) (w : World) (hx : (Lit.int .i64 x).wf = true) (hy : (Lit.int .i64 y).wf = true) (h1 : Lst kO w B A1 n1 m) (h2 : Lst kO w B A2 n2 f) (h3 : Lst kO w B A3 n3 fi) (hB : B ≤ w.heap.size) :
    Calls Tryd.prog 98 #[.agg #[.int .i64 K, .slice A1 n1 c1, .slice A2 n2 c2, .slice A3 n3 c3], .int .i64 x, .int .i64 y] w fun e w' => e = .returned (.int .i64 (finishV K m f fi x y)) ∧ Below w.heap.size w w' := by
  go_enter Tryd.func98, Tryd.ntmps98
  by_cases hC : checkB K m f fi = true
  · obtain ⟨hK1, hK4, hmm, hmf, hme⟩ := checkB_says hC
    have HC := Lib.hid (show checkE K m f fi = 0 by rw [checkE, if_pos hC])
    have HV := Lib.hid (show finishV K m f fi x y = reg (runR fi [y, x, 0, 0, 0, 0, 0, 0]) 0 by rw [finishV, if_pos hC])
    rw [HV.out]
    clear HV hmm hK1 hK4 hC
    go_wp2_with (first
      | (refine wpList_box_blk (w := w) rfl 26 _ rfl #[.int .i64 K, .slice A1 n1 c1, .slice A2 n2 c2, .slice A3 n3 c3] rfl ?_; intro w1 q1 g1 z1; have b1 : Below w.heap.size w w1 := (Below.refl _ w).grown g1 (Nat.le_refl _) (by simp); have L1 := h1.below (b1.mono hB); have L2 := h2.below (b1.mono hB); have L3 := h3.below (b1.mono hB); clear h1 h2 h3 g1 z1)
      | (refine wpList_load_blk (w := w1) rfl 26 _ rfl w.heap.size 4 rfl 26 _ q1 _ Tryd.underlying26 rfl info_prog rfl ?_))
    refine (check_any B K A1 A2 A3 n1 c1 n2 c2 n3 c3 m f fi w1 L1 L2 L3 (Nat.le_trans hB b1.size)).mono ?_
    rintro e w2 ⟨rfl, b2⟩
    rw [HC.out]
    have q2 := q1.after b2
    have LP := (L3).below (b2.mono (Nat.le_trans hB b1.size))
    have b2 := b1.trans (b2.mono b1.size)
    clear q1 b1 L1 L2 L3
    have hcP := q2.cell (i := 3) rfl
    have hl2 := q2.lt
    have HWF := Lib.hid (show ∀ z ∈ [y, x], (Lit.int .i64 z).wf = true from fun z hz => by
      rcases List.mem_cons.1 hz with rfl | hz
      · exact hy
      · rw [List.mem_singleton.1 hz]; exact hx)
    go_wp2_with (first
      | (refine wpList_alloc_blk (w := w2) rfl 105 rfl _ zero_mach ?_; intro w3 q3 g3 z3)
      | (refine wpList_run (w := w3) rfl (v := .pointer (some ⟨w.heap.size, 3, none⟩)) (Held.y_field (S := fun _ => True) (k := 3) (s := 0) rfl rfl Tryd.underlying26 rfl (by kernel_rfl) rfl _ trivial) ?_; have hcP3 := ((q2.grown g3 (by simp)).cell (i := 3) rfl))
      | (refine Held.wpList_build_row (w := w3) rfl 130 2 2 _ rfl .i64 8 [y, x] Tryd.underlying130 info_i64 (by simp [Act.eval]) rfl (by omega) (by omega) HWF.out ?_; intro w4 r4 g4 z4))
    have l3 : w2.heap.size < w3.heap.size := q3.lt
    have b3 : Below w2.heap.size w2 w3 := (Below.refl _ w2).grown g3 (Nat.le_refl _) (by simp)
    have b4 : Below w2.heap.size w2 w4 := b3.grown g4 (Nat.le_of_lt l3) (by simp)
    have q4 := q3.grown g4 (by simp)
    have LP4 := LP.below (b4.mono (Nat.le_trans hB b2.size))
    have b24 := b2.trans (b4.mono b2.size)
    have l4 : w3.heap.size < w4.heap.size := r4.lt
    refine (run_any w2.heap.size B w4.heap.size w2.heap.size 0 A3 (some ⟨w3.heap.size, 0, none⟩) none n3 c3 2 2 0 0 fi [y, x] 0 [] w4 LP4 (r4.ints (by simp)) (Nat.le_trans hB b2.size) (Nat.le_refl _) b4.size (Nat.le_refl _) (by omega) (by omega) q4 (fun h => absurd h (by omega)) rfl hme).mono ?_
    rintro e w5 ⟨⟨v, rfl⟩, q5, _, b5⟩
    have b5 := b24.trans (b5.mono b2.size)
    have hrl : (runR fi ([y, x] ++ List.replicate (8 - 2) 0)).length = 8 := by rw [runR_length]; rfl
    have c5 := q5.cell (mach_get hrl _ _ (i := 0) (by omega))
    have HV := Lib.hid (show (runR fi ([y, x] ++ List.replicate (8 - 2) 0)).getD 0 0 = reg (runR fi [y, x, 0, 0, 0, 0, 0, 0]) 0 from rfl)
    generalize (runR fi ([y, x] ++ List.replicate (8 - 2) 0)).getD 0 0 = z at HV c5
    clear q5 hrl q4 q3 LP4 r4 b4 b24 b3 b2 q2
    go_wp2_with (first
      | (refine wpList_run (w := w5) rfl (v := .pointer (some ⟨w2.heap.size, 0, none⟩)) (Held.y_field (S := fun _ => True) (k := 0) (s := 7) rfl rfl Tryd.underlying105 rfl (by kernel_rfl) rfl _ trivial) ?_)
      | (refine wpList_run (w := w5) rfl (v := .pointer (some ⟨w2.heap.size, 0, none⟩)) (Held.y_addr (S := fun _ => True) rfl rfl rfl (fun W => Held.run_addr_arr 75 2 8 w2.heap.size 0 .i64 Tryd.underlying75 (by kernel_rfl) (by omega) W) _ trivial) ?_))
    go_ret
    exact ⟨Mem.ret_int HV.out, b5⟩
  · have HC := Lib.hid (show checkE K m f fi = 8 by rw [checkE, if_neg hC])
    have HV := Lib.hid (show finishV K m f fi x y = 0 by rw [finishV, if_neg hC])
    rw [HV.out]
    clear HV hC
    go_wp2_with (first
      | (refine wpList_box_blk (w := w) rfl 26 _ rfl #[.int .i64 K, .slice A1 n1 c1, .slice A2 n2 c2, .slice A3 n3 c3] rfl ?_; intro w1 q1 g1 z1; have b1 : Below w.heap.size w w1 := (Below.refl _ w).grown g1 (Nat.le_refl _) (by simp); have L1 := h1.below (b1.mono hB); have L2 := h2.below (b1.mono hB); have L3 := h3.below (b1.mono hB); clear h1 h2 h3 g1 z1)
      | (refine wpList_load_blk (w := w1) rfl 26 _ rfl w.heap.size 4 rfl 26 _ q1 _ Tryd.underlying26 rfl info_prog rfl ?_))
    refine (check_any B K A1 A2 A3 n1 c1 n2 c2 n3 c3 m f fi w1 L1 L2 L3 (Nat.le_trans hB b1.size)).mono ?_
    rintro e w2 ⟨rfl, b2⟩
    rw [HC.out]
    have b2 := b1.trans (b2.mono b1.size)
    clear q1 b1 L1 L2 L3
    go_wp2_with fail
    go_ret
    exact ⟨rfl, b2⟩
end Go.Proofs.YtlinmcgmkpkpaaaDoor.Vm
namespace Go.Proofs.YtlinmcgmkpkpaaaDoor.Pi
open Go.RowKit Go.Shelf Mem Held Go.Proofs.YtlinmcgmkpkpaaaDoor.Range Rc Rs Sl Mg
def TL (t : TypeId) : Prop := t = 48 ∨ t = 51
theorem nol_of {W : World} {r : Nat} {t : TypeId} {cs : Array Value} (h : Blk W r t cs) (ht : ¬ TL t) : NoL TL W r := fun cs' t' fz e => by
  have h : W.heap[r]? = some (.cells cs t (0, 0)) := h
  rw [h] at e
  injection e with e
  injection e with _ e2 _
  rw [← e2]
  exact ht
theorem nol_off {W : World} {r : Nat} {o : Obj} (h : W.heap[r]? = some o) (hc : o.isCells = false) : NoL TL W r := fun cs' t' fz e => by
  rw [h] at e
  injection e with e
  subst e
  cases hc
section
variable {α : Type} {k : St α} {t : TypeId} {W W' : World} {base : Nat} {v : Value} {xs : List α}
theorem own_far (h : OwnL k t W base v xs) (ht : TL t) {row : Option Nat} (hg : W.grownBy W' row) (hr : ∀ r, row = some r → NoL TL W r) : OwnL k t W' base v xs :=
  own_new h hg fun r e b hb hbr => by
    subst hbr
    obtain ⟨cs, hc⟩ := own_cells h hb
    exact hr b e cs t (0, 0) hc ht
theorem own_step (h : OwnL k t W base v xs) (hs : ∀ (b : Nat) (o : Obj), W.heap[b]? = some o → (∃ cs fz, o = .cells cs t fz) → W'.heap[b]? = some o) : OwnL k t W' base v xs := by
  obtain ⟨h1, h2⟩ := h
  refine ⟨h1, ?_⟩
  rcases h2 with h2 | ⟨g, cap, cur, e, hb, hg, hrest⟩
  · exact .inl h2
  · exact .inr ⟨g, cap, cur, e, hb, hs g _ hg ⟨_, _, rfl⟩, hrest⟩
end
def Grid (W : World) (base : Nat) (V : Value) (bs : List (List R)) : Prop := ∃ vs, OwnL kS 48 W base V vs ∧ Tb W base vs bs
section
variable {W W' : World} {base : Nat} {V : Value} {bs : List (List R)}
theorem Grid.nil (W : World) (base : Nat) : Grid W base (.slice none 0 0) [] := ⟨[], OwnL.nil _ _ _ _, Tb.nil _ _⟩
theorem Grid.far (h : Grid W base V bs) {row : Option Nat} (hg : W.grownBy W' row) (hr : ∀ r, row = some r → NoL TL W r) : Grid W' base V bs := by
  obtain ⟨vs, h1, h2, h3⟩ := h
  exact ⟨vs, own_far h1 (.inl rfl) hg hr, h2, fun i hi => own_far (h3 i hi) (.inr rfl) hg hr⟩
theorem Grid.below (h : Grid W base V bs) (hb : Below W.heap.size W W') : Grid W' base V bs := h.far (grown_of_below hb none) (fun r e => by cases e)
theorem Grid.less (h : Grid W base V bs) {b : Nat} (hb : b ≤ base) : Grid W b V bs := by
  obtain ⟨vs, h1, h2, h3⟩ := h
  exact ⟨vs, OwnL.less h1 hb, h2, fun i hi => OwnL.less (h3 i hi) hb⟩
theorem Grid.form (h : Grid W base V bs) : ∃ A n c, V = .slice A n c ∧ Hid (bs.length = n) := by
  obtain ⟨vs, h1, h2, h3⟩ := h
  obtain ⟨A, n, c, rfl, hn, _⟩ := OwnL.form2 h1
  exact ⟨A, n, c, rfl, Lib.hid (h2.symm.trans hn.out)⟩
end
structure KeepL (S : Nat → Prop) (w w' : World) : Prop where
  size : w.heap.size ≤ w'.heap.size
  block : ∀ (b : Nat) (o : Obj), (¬ S b ∨ ∃ cs t fz, o = .cells cs t fz ∧ TL t) → w.heap[b]? = some o → o.isCells = true → w'.heap[b]? = some o
section
variable {S : Nat → Prop} {w w' w'' : World}
theorem KeepL.refl (S : Nat → Prop) (w : World) : KeepL S w w := ⟨Nat.le_refl _, fun _ _ _ h _ => h⟩
theorem KeepL.trans (h : KeepL S w w') (k : KeepL S w' w'') : KeepL S w w'' := ⟨Nat.le_trans h.size k.size, fun b o hb ho hc => k.block b o hb (h.block b o hb ho hc) hc⟩
theorem KeepL.of_grown {row : Option Nat} (hg : w.grownBy w' row) (hr : ∀ r, row = some r → S r ∧ NoL TL w r) : KeepL S w w' :=
  ⟨hg.size, fun b o hb ho hc => (hg.block b (Array.getElem?_eq_some_iff.1 ho).1 (fun e => by
    obtain ⟨h1, h2⟩ := hr b e.symm
    rcases hb with hb | ⟨cs, t, fz, rfl, ht⟩
    · exact hb h1
    · exact h2 cs t fz ho ht)).trans ho⟩
theorem KeepL.of_below (h : Below w.heap.size w w') : KeepL S w w' := KeepL.of_grown (grown_of_below h none) (fun r e => by cases e)
theorem KeepL.put (W : World) (l : Nat) (o o' : Obj) (h : W.heap[l]? = some o) (hc : o.isCells = false) : KeepL S W (W.putObj l o') :=
  ⟨(grownBy_putObj' W l o').size, fun b o2 _ ho hc2 => (World.putObj_heap_other (fun e => by subst e; rw [h] at ho; injection ho with ho; subst ho; rw [hc] at hc2; cases hc2)).trans ho⟩
theorem KeepL.more {S' : Nat → Prop} (h : KeepL S w w') (hs : ∀ b, S b → S' b) : KeepL S' w w' :=
  ⟨h.size, fun b o hb ho hc => h.block b o (hb.elim (fun hb => .inl fun h => hb (hs b h)) .inr) ho hc⟩
theorem KeepL.only (h : KeepL S w w') : Only S w w' := ⟨h.size, fun b o hb ho hc => h.block b o (.inl hb) ho hc⟩
theorem KeepL.blk (h : KeepL S w w') {g : Nat} {t : TypeId} {cs : Array Value} (hb : Blk w g t cs) (hg : ¬ S g) : Blk w' g t cs := h.block g _ (.inl hg) hb rfl
theorem KeepL.grid (h : KeepL S w w') {base : Nat} {V : Value} {bs : List (List R)} (hG : Grid w base V bs) : Grid w' base V bs := by
  obtain ⟨vs, h1, h2, h3⟩ := hG
  exact ⟨vs, own_step h1 fun b o ho ⟨cs, fz, e⟩ => h.block b o (.inr ⟨cs, _, fz, e, .inl rfl⟩) ho (by rw [e]; rfl),
    h2, fun i hi => own_step (h3 i hi) fun b o ho ⟨cs, fz, e⟩ => h.block b o (.inr ⟨cs, _, fz, e, .inr rfl⟩) ho (by rw [e]; rfl)⟩
theorem KeepL.lst (h : KeepL S w w') {α : Type} {k : St α} {B n : Nat} {A : Option Addr} {xs : List α} (hB : ∀ b, b < B → ¬ S b) (hx : Lst k w B A n xs) : Lst k w' B A n xs :=
  Vm.Lst.only hx h.only hB
end
def EncG (base : Nat) (x : Nat × List (List R)) (W : World) (args : Array Value) : Prop := ∃ V, args = #[.int .i64 (x.1 : Int), V] ∧ Grid W base V x.2
end Go.Proofs.YtlinmcgmkpkpaaaDoor.Pi
namespace Go.Proofs.YtlinmcgmkpkpaaaDoor.Sp
open Go.RowKit Go.Shelf Go.Proofs.YtlinmcgmkpkpaaaDoor Mem Held Rc Rs Sl Vm
attribute [local irreducible] wpList wpListIn Calls
section
variable {P : Program} {S : World → Prop} {ρ : Operand → Value} {o : Oper}
theorem y_geq {t ty : TypeId} {x y : Operand} {k : IntKind} {a b : Int} {r : Bool} (ho : o.op = .binOp .geq t x y ty) (hx : ρ x = .int k a) (hy : ρ y = .int k b) (hr : decide (b ≤ a) = r) : ∀ w, S w → (execOp ρ o).run P w = .ok (.value (.bool r)) w :=
  Held.y_bin ho hx hy (fun w => by simp [eqGuard]) (fun w => by subst hr; simp [binOp, Op.intCmp])
end
def inB (n most : Int) : Bool := decide (1 ≤ n) && decide (n ≤ most)
set_option maxHeartbeats 1000000 in
theorem within_any (n most : Int) (b : Bool) (hb : inB n most = b) (w : World) :
    Calls Tryd.prog 39 #[.int .i64 n, .int .i64 most] w fun e w' => e = .returned (.bool b) ∧ w = w' := by
  subst hb
  go_enter Tryd.func39, Tryd.ntmps39
  by_cases h1 : n ≥ 1
  · by_cases h2 : n ≤ most
    · go_wp2_with fail
      go_ret
      exact ⟨Mem.ret_bool (by simp [inB, h2]; omega), rfl⟩
    · go_wp2_with fail
      go_ret
      exact ⟨Mem.ret_bool (by simp [inB, h2]), rfl⟩
  · go_wp2_with fail
    go_ret
    exact ⟨Mem.ret_bool (by simp [inB]; omega), rfl⟩
theorem size_params : (Tryd.prog.info? 28).map (·.size) = some 4 := by kernel_rfl
set_option maxHeartbeats 2000000 in
theorem blocks_any (r k b wk : Int) (hr1 : 1 ≤ r) (hr : r ≤ 64) (hb1 : 1 ≤ b) (hb : b ≤ 8) (w : World) :
    Calls Tryd.prog 40 #[.agg #[.int .i64 r, .int .i64 k, .int .i64 b, .int .i64 wk]] w fun e w' => e = .returned (.int .i64 ((r + b - 1) / b)) ∧ Below w.heap.size w w' := by
  have e1 : IntKind.i64.wrap (r + b) = r + b := by rw [IntKind.wrap_i64]; omega
  have e2 : IntKind.i64.wrap (r + b - 1) = r + b - 1 := by rw [IntKind.wrap_i64]; omega
  have hb0 : ¬ b = 0 := by omega
  have hb0' : b ≠ 0 := by omega
  have e3 : Int.tdiv (r + b - 1) b = (r + b - 1) / b := Int.tdiv_eq_ediv_of_nonneg (by omega)
  have e4 : IntKind.i64.wrap ((r + b - 1) / b) = (r + b - 1) / b := by
    have h1 : 0 ≤ (r + b - 1) / b := Int.ediv_nonneg (by omega) (by omega)
    have h2 : (r + b - 1) / b ≤ r + b - 1 := Int.ediv_le_self _ (by omega)
    rw [IntKind.wrap_i64]
    omega
  go_enter Tryd.func40, Tryd.ntmps40
  go_wp2_with (first
    | (refine wpList_box_blk (w := w) rfl 28 _ rfl #[.int .i64 r, .int .i64 k, .int .i64 b, .int .i64 wk] rfl ?_; intro w1 q1 g1 z1; have hc0 := q1.cell (i := 0) rfl; have hc2 := q1.cell (i := 2) rfl; have b1 : Below w.heap.size w w1 := (Below.refl _ w).grown g1 (Nat.le_refl _) (by simp); clear g1 z1 q1)
    | (refine wpList_run (w := w1) rfl (v := .pointer (some ⟨w.heap.size, 0, none⟩)) (Held.y_field (S := fun _ => True) (k := 0) (s := 0) rfl rfl Tryd.underlying28 rfl (by kernel_rfl) rfl _ trivial) ?_)
    | (refine wpList_run (w := w1) rfl (v := .pointer (some ⟨w.heap.size, 2, none⟩)) (Held.y_field (S := fun _ => True) (k := 2) (s := 0) rfl rfl Tryd.underlying28 rfl (by kernel_rfl) rfl _ trivial) ?_))
  go_ret
  exact ⟨rfl, b1⟩
theorem rightB_of (r k b wk : Int) : rightB r k b wk = (inB r 64 && inB k 4 && inB b 8 && inB wk 4 && decide (k * ((r + b - 1) / b) < 32)) := by
  simp [rightB, inB]
theorem inB_says {n most : Int} (h : inB n most = true) : 1 ≤ n ∧ n ≤ most := by simpa [inB] using h
set_option maxRecDepth 100000 in
set_option maxHeartbeats 8000000 in
theorem right_any (r k b wk : Int) (w : World) :
    Calls Tryd.prog 28 #[.agg #[.int .i64 r, .int .i64 k, .int .i64 b, .int .i64 wk]] w fun e w' => e = .returned (.int .i64 (rightE r k b wk)) ∧ Below w.heap.size w w' := by
  go_enter Tryd.func28, Tryd.ntmps28
  have HE := Lib.hid (show rightE r k b wk = if (inB r 64 && inB k 4 && inB b 8 && inB wk 4 && decide (k * ((r + b - 1) / b) < 32)) = true then 0 else 1 by rw [← rightB_of]; rfl)
  rw [HE.out]
  clear HE
  obtain ⟨B1, h1⟩ : ∃ B, inB r 64 = B := ⟨_, rfl⟩
  obtain ⟨B2, h2⟩ : ∃ B, inB k 4 = B := ⟨_, rfl⟩
  obtain ⟨B3, h3⟩ : ∃ B, inB b 8 = B := ⟨_, rfl⟩
  obtain ⟨B4, h4⟩ : ∃ B, inB wk 4 = B := ⟨_, rfl⟩
  rw [h1, h2, h3, h4]
  have H1 := Lib.hid h1
  have H2 := Lib.hid h2
  have H3 := Lib.hid h3
  have H4 := Lib.hid h4
  clear h1 h2 h3 h4
  cases B1 <;> cases B2 <;> cases B3 <;> cases B4
  case true.true.true.true =>
    obtain ⟨hr1, hr2⟩ := inB_says H1.out
    obtain ⟨hk1, hk2⟩ := inB_says H2.out
    obtain ⟨hb1, hb2⟩ := inB_says H3.out
    obtain ⟨BL, hBL⟩ : ∃ BL, (r + b - 1) / b = BL := ⟨_, rfl⟩
    have hBL0 : 0 ≤ BL := by rw [← hBL]; exact Int.ediv_nonneg (by omega) (by omega)
    have hBL1 : BL ≤ 71 := by
      have h2 : (r + b - 1) / b ≤ r + b - 1 := Int.ediv_le_self _ (by omega)
      omega
    have HM := Lib.hid (show IntKind.i64.wrap (k * ((r + b - 1) / b)) = k * ((r + b - 1) / b) by
      rw [hBL, IntKind.wrap_i64]
      have h1 : 0 ≤ k * BL := Int.mul_nonneg (by omega) hBL0
      have h2 : k * BL ≤ 4 * 71 := Int.mul_le_mul hk2 hBL1 hBL0 (by omega)
      omega)
    obtain ⟨GB, hGB⟩ : ∃ GB, decide (32 ≤ k * ((r + b - 1) / b)) = GB := ⟨_, rfl⟩
    have HG := Lib.hid hGB
    have HD := Lib.hid (show decide (k * ((r + b - 1) / b) < 32) = !GB by rw [← hGB, ← decide_not]; exact decide_eq_decide.2 (by omega))
    rw [HD.out]
    clear hBL hBL0 hBL1 hGB HD hk1 hk2
    go_wp2_with (first
      | (refine wpList_box_blk (w := w) rfl 28 _ rfl #[.int .i64 r, .int .i64 k, .int .i64 b, .int .i64 wk] rfl ?_; intro u1 q1 g1 z1; have hc0 := q1.cell (i := 0) rfl; have hc1 := q1.cell (i := 1) rfl; have hc2 := q1.cell (i := 2) rfl; have hc3 := q1.cell (i := 3) rfl; have bb : Below w.heap.size w u1 := (Below.refl _ w).grown g1 (Nat.le_refl _) (by simp); clear g1 z1)
      | (refine wpList_run (w := u1) rfl (v := .pointer (some ⟨w.heap.size, 0, none⟩)) (Held.y_field (S := fun _ => True) (k := 0) (s := 0) rfl rfl Tryd.underlying28 rfl (by kernel_rfl) rfl _ trivial) ?_)
      | (refine wpList_run (w := u1) rfl (v := .pointer (some ⟨w.heap.size, 1, none⟩)) (Held.y_field (S := fun _ => True) (k := 1) (s := 0) rfl rfl Tryd.underlying28 rfl (by kernel_rfl) rfl _ trivial) ?_)
      | (refine wpList_run (w := u1) rfl (v := .pointer (some ⟨w.heap.size, 2, none⟩)) (Held.y_field (S := fun _ => True) (k := 2) (s := 0) rfl rfl Tryd.underlying28 rfl (by kernel_rfl) rfl _ trivial) ?_)
      | (refine wpList_run (w := u1) rfl (v := .pointer (some ⟨w.heap.size, 3, none⟩)) (Held.y_field (S := fun _ => True) (k := 3) (s := 0) rfl rfl Tryd.underlying28 rfl (by kernel_rfl) rfl _ trivial) ?_)
      | (go_at_call 39; (first | refine (within_any r 64 _ H1.out u1).mono ?_ | refine (within_any k 4 _ H2.out u1).mono ?_ | refine (within_any b 8 _ H3.out u1).mono ?_ | refine (within_any wk 4 _ H4.out u1).mono ?_); rintro e w' ⟨rfl, rfl⟩))
    refine wp_region_held (S := fun W => Below u1.heap.size u1 W) (by kernel_rfl) ?_
    change wpAnyH _ _ _ _ _ _ _ _ u1.drew
    have c0_0 := (Below.refl u1.heap.size u1).drew
    refine Held.tk (v := .pointer (some ⟨w.heap.size, 1, none⟩)) 0 (some 25) rfl (Held.y_field (k := 1) (s := 0) rfl rfl Tryd.underlying28 rfl (by kernel_rfl) rfl) c0_0 ?_
    simp only [Act.put, Z1, Z2, Z3]
    refine Held.tk (v := .int .i64 k) 1 (some 26) rfl (Held.y_load rfl rfl (by kernel_rfl) (fun W hW => (q1.below hW q1.lt).cell rfl)) c0_0 ?_
    simp only [Act.put, Z1, Z2, Z3]
    refine Held.tk (v := .agg #[.int .i64 r, .int .i64 k, .int .i64 b, .int .i64 wk]) 2 (some 27) rfl (Held.y_load_blk (n := 4) rfl rfl Tryd.underlying28 rfl (by kernel_rfl) rfl (fun W hW => q1.below hW q1.lt)) c0_0 ?_
    simp only [Act.put, Z1, Z2, Z3]
    refine Held.one 3 (by kernel_rfl) ?_
    refine Held.op_call 3 (some 28) 40 #[.agg #[.int .i64 r, .int .i64 k, .int .i64 b, .int .i64 wk]] rfl rfl rfl rfl (enters_of Tryd.func40 (by kernel_rfl) rfl) (by simp [Act.eval])
      (blocks_any r k b wk hr1 hr2 hb1 hb2 _) ?_
    rintro e w1 ⟨rfl, b1⟩
    have c0_1 := c0_0.trans (b1.mono c0_0.size)
    refine ⟨_, rfl, c0_1, ?_⟩
    simp only [Act.put, Z1, Z2, Z3]
    refine Held.tk (v := .int .i64 (k * ((r + b - 1) / b))) 4 (some 29) rfl (Held.y_int rfl rfl rfl (Held.run_mul 3 .i64 HM.out)) c0_1 ?_
    simp only [Act.put, Z1, Z2, Z3]
    refine Held.tk (v := .bool GB) 5 (some 30) rfl (y_geq rfl rfl rfl HG.out) c0_1 ?_
    simp only [Act.put, Z1, Z2, Z3]
    refine wpAnyH_done (by kernel_rfl) ?_ _
    have bz := bb.trans (c0_1.mono bb.size)
    cases GB
    all_goals
      go_wp2_with fail
      go_ret
      exact ⟨rfl, bz⟩
  all_goals go_wp2_with (first
    | (refine wpList_box_blk (w := w) rfl 28 _ rfl #[.int .i64 r, .int .i64 k, .int .i64 b, .int .i64 wk] rfl ?_; intro u1 q1 g1 z1; have hc0 := q1.cell (i := 0) rfl; have hc1 := q1.cell (i := 1) rfl; have hc2 := q1.cell (i := 2) rfl; have hc3 := q1.cell (i := 3) rfl; have bb : Below w.heap.size w u1 := (Below.refl _ w).grown g1 (Nat.le_refl _) (by simp); clear g1 z1)
    | (refine wpList_run (w := u1) rfl (v := .pointer (some ⟨w.heap.size, 0, none⟩)) (Held.y_field (S := fun _ => True) (k := 0) (s := 0) rfl rfl Tryd.underlying28 rfl (by kernel_rfl) rfl _ trivial) ?_)
    | (refine wpList_run (w := u1) rfl (v := .pointer (some ⟨w.heap.size, 1, none⟩)) (Held.y_field (S := fun _ => True) (k := 1) (s := 0) rfl rfl Tryd.underlying28 rfl (by kernel_rfl) rfl _ trivial) ?_)
    | (refine wpList_run (w := u1) rfl (v := .pointer (some ⟨w.heap.size, 2, none⟩)) (Held.y_field (S := fun _ => True) (k := 2) (s := 0) rfl rfl Tryd.underlying28 rfl (by kernel_rfl) rfl _ trivial) ?_)
    | (refine wpList_run (w := u1) rfl (v := .pointer (some ⟨w.heap.size, 3, none⟩)) (Held.y_field (S := fun _ => True) (k := 3) (s := 0) rfl rfl Tryd.underlying28 rfl (by kernel_rfl) rfl _ trivial) ?_)
    | (go_at_call 39; (first | refine (within_any r 64 _ H1.out u1).mono ?_ | refine (within_any k 4 _ H2.out u1).mono ?_ | refine (within_any b 8 _ H3.out u1).mono ?_ | refine (within_any wk 4 _ H4.out u1).mono ?_); rintro e w' ⟨rfl, rfl⟩))
  all_goals (go_ret; exact ⟨rfl, bb⟩)
end Go.Proofs.YtlinmcgmkpkpaaaDoor.Sp
