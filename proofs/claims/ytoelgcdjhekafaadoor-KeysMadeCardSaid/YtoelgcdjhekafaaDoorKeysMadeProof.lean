/-
  The law KeysMade of package dominolaw08 returns true for every master, number, place, sender and start: each key is made of the one above it, and of what it is for, by hkdf. The tables of packages sha, internal/strconv and math/bits hold what the program's text lays (tied); that nothing else writes them is the translator's report.
-/
import Derived.Test.YtoelgcdjhekafaaDoorRows
import Derived.Test.YtoelgcdjhekafaaDoorCards
import Derived.Test.YtoelgcdjhekafaaDoorTie
import Derived.SevenTiedAt
import Derived.WalkKit
import Derived.ProofKit
import Derived.OpenShut
import Derived.ShutString
import Derived.ChangeOld
import Derived.Below
import Derived.LaidMore
import Derived.Stop.Joined
import Derived.Test.YtoelgcdjhekafaaDoorB17
import Derived.Test.YtoelgcdjhekafaaDoorB9
import Derived.Test.YtoelgcdjhekafaaDoorB5
namespace Go.Proofs.YtoelgcdjhekafaaDoor.keysMade
open Go.ChangeShapes Go.WideShapes Go.ChangeAt Go.RowKit
open Go.ChangeMaps (open_string shut_string)
open Go.Shelf Go.Proofs.YtoelgcdjhekafaaDoor.Mem Go.Proofs.YtoelgcdjhekafaaDoor.Help Go.Proofs.YtoelgcdjhekafaaDoor.Sum Go.Proofs.YtoelgcdjhekafaaDoor.Sha Go.Proofs.YtoelgcdjhekafaaDoor.Mac Go.Proofs.YtoelgcdjhekafaaDoor.Po Go.Proofs.YtoelgcdjhekafaaDoor.Hkdf Go.Proofs.YtoelgcdjhekafaaDoor.Ky Go.Proofs.YtoelgcdjhekafaaDoor
set_option linter.unusedVariables false

theorem own : ownKnob Tryd.prog.godebug = none := by kernel_rfl
theorem laidOut : laidOutB Tryd.prog = true := by kernel_rfl

/-- what a slice that came in leads to -/
def IsRow (k : IntKind) (w : World) (a : Option Addr) (len cap : Nat) (zs : List Int) : Prop :=
  (a = none ∧ len = 0 ∧ cap = 0 ∧ zs = []) ∨
  ∃ x, a = some x ∧ len ≤ cap ∧ cap ≤ maxLen ∧ zs.length = cap ∧ (∀ i, i < zs.length → w.cell? (x.add i) = some (.int k (zs.getD i 0))) ∧ ∀ n ∈ zs, (Lit.int k n).wf = true

def laidList : List (String × DataW Unit) := [("math/bits.deBruijn32tab", Rows.laid_math_bits_deBruijn32tab), ("math/bits.deBruijn64tab", Rows.laid_math_bits_deBruijn64tab), ("internal/strconv.uint64pow10", Rows.laid_internal_strconv_uint64pow10), ("domino/sha.start", Rows.laid_domino_sha_start), ("domino/sha.words", Rows.laid_domino_sha_words)]

attribute [local irreducible] wpList Calls

theorem text_ints {w : World} {p : Nat} {zs : List Int} (h : TextRow w p zs) : Ints w .u8 w.heap.size (some ⟨p, 0, none⟩) zs.length zs :=
  ⟨rfl, h.1, fun _ => ⟨p, 0, rfl, h.lt, fun i hi => by
    rw [Nat.zero_add, cell_of_row w p i _ _ _ h.2]
    simp [List.getD_eq_getElem?_getD, hi]⟩⟩
theorem wpList_append_grow {P : Program} {ops : Array Oper} {rest : List Oper} {o : Oper} {a : Act} {w : World} {Q : Exit → Act → World → Prop} (hgd : o.guard = none) (s x : Operand) (ts : TypeId)
    (ho : o.op = .call { callee := .builtin .append, args := #[s, x], argTypes := #[ts, ts] }) (ht : P.underlying ts = some (.slice 5))
    (hinfo : (P.info? 5).map (fun i => (i.zero, i.size, i.bytes)) = some (some (.int .u8 0), 1, 1)) (p n : Nat) (zs : List Int) (hs : a.eval s = .slice (some ⟨p, 0, none⟩) n n) (B' : Nat) (hr : Ints w .u8 B' (some ⟨p, 0, none⟩) n zs)
    (B : Nat) (A : Option Addr) (m c : Nat) (xs : List Int) (hx : a.eval x = .slice A m c) (hxs : Ints w .u8 B A m xs) (hm : 0 < m) (hlen : n + m ≤ 17592186044416)
    (h : ∀ A' n' c' w', Mem.Own w' w.heap.size 5 .u8 (.slice A' n' c') (zs ++ xs) → Below w.heap.size w w' → n' ≤ c' → c' ≤ maxLen → Hid (n' = n + m) → wpList P ops Q rest (a.put o.dst (.slice A' n' c')) w') : wpList P ops Q (o :: rest) a w := by
  refine wpList_plain hgd fun K hK => ?_
  obtain ⟨ie, hie, hz, hsz, hbb⟩ := info_parts hinfo
  obtain ⟨b, off, rfl, _, hc⟩ := hxs.2.2 hm
  have hl := hxs.1
  have hl' := hr.1
  subst hl'
  have holds : ∀ j u, (zs.map (Value.int .u8))[j]? = some u → w.cell? ((⟨p, 0, none⟩ : Addr).add j) = some u := fun j u hu => by
    have hj : j < zs.length := by simpa using (List.getElem?_eq_some_iff.1 hu).1
    obtain ⟨b', off', e, _, hc'⟩ := hr.at_ hj
    cases e
    rw [addr_add, hc', ← hu]
    simp [List.getD_eq_getElem?_getD, hj]
  have hnews : ∀ j u, (xs.map (Value.int .u8))[j]? = some u → w.cell? ((⟨b, off, none⟩ : Addr).add j) = some u := fun j u hu => by
    have hj : j < m := by have := (List.getElem?_eq_some_iff.1 hu).1; simp at this; omega
    rw [addr_add, hc j hj, ← hu]
    simp [List.getD_eq_getElem?_getD, show j < xs.length by omega]
  have hr2 := run_append_grow (P := P) w ts o.type 5 ie (.int .u8 0) ht hie hz ⟨p, 0, none⟩ zs.length zs.length (zs.map (Value.int .u8)) (by simp [hsz]) holds ⟨b, off, none⟩ m c (xs.map (Value.int .u8)) (by simp [hsz, hl]) hnews (by omega) (by omega) (growslice_fits (by omega) (by rw [hbb]; omega))
  have hge := grownCap_ge w (zs.length + m) zs.length 5
  have hcm : grownCap w (zs.length + m) zs.length 5 ≤ maxLen := grownCap_le_maxLen w (zs.length + m) zs.length 5 (by simp only [maxLen]; omega)
  refine Lib.wp_append_run w s x ts ts ho _ _ hs hx _ _ hr2 (hK _ _ (h _ _ _ _ ⟨fun z hz => ?_, by simp [hl], .inr ⟨w.heap.size, _, _, by simp [hl], Nat.le_refl _, heap_alloc_new w.drew _, by simpa [hl] using hge, hcm, ?_, ?_⟩⟩ ⟨rfl, rfl, rfl, by simp, fun k hk => Below.heap_alloc w.drew _ k hk⟩ hge hcm (Lib.hid rfl)))
  · rcases List.mem_append.1 hz with q | q
    · exact hr.2.1 z q
    · exact hxs.2.1 z q
  · simp only [Array.size_append, List.size_toArray, size_zeroCells, List.length_map, Value.cells, hl]
    simp
    omega
  · simp only [Array.toList_append, List.append_assoc]
    rw [← List.append_assoc, List.take_left' (by simp [hl])]
    simp

set_option maxRecDepth 100000 in
set_option maxHeartbeats 16000000 in
theorem start (ms : List Int) (id ph rr ad t ix fr sa : Int) (u : World) (hm : ms.length = 32) (hmw : ∀ z ∈ ms, (Lit.int .u8 z).wf = true) (hid : (Lit.int .u64 id).wf = true) (hsa : (Lit.int .u64 sa).wf = true) (hL0 : Laid u) :
    Calls Tryd.prog 5 #[.agg (arr .u8 ms), .int .u64 id, .agg #[.int .i64 ph, .int .i64 rr, .int .i64 ad, .int .u64 t, .int .i64 ix], .int .i64 fr, .int .u64 sa] u fun e u' => e = .returned (.bool true) ∧ Below u.heap.size u u' := by
  have HM := Lib.hid hm
  have HMW := Lib.hid hmw
  clear hm hmw
  have HJ := Lib.hid (kJob_length ms id)
  have HJW := Lib.hid (kJob_wf ms id)
  obtain ⟨jb, hjb⟩ : ∃ jb, kJob ms id = jb := ⟨_, rfl⟩
  rw [hjb] at HJ HJW
  have HJB := Lib.hid hjb
  clear hjb
  have W0 := u64_eq ph
  have W3 := u64_eq fr
  go_enter Tryd.func5, Tryd.ntmps5
  go_wp2_with (first
    | (refine wpList_box_Row (w := u) rfl 22 _ rfl .u8 ms rfl HMW.out ?_; intro u1 m1 g1 z1)
    | (refine wpList_box_place (w := u1) rfl _ rfl #[.int .i64 ph, .int .i64 rr, .int .i64 ad, .int .u64 t, .int .i64 ix] rfl rfl ?_; intro u2 q2 g2))
  have bu2 : Below u.heap.size u u2 := ((Below.refl _ u).grown g1 (Nat.le_refl _) (by simp)).grown g2 g1.size (by simp)
  have m2 := m1.grown g2 (by simp)
  obtain ⟨ga, hga⟩ : ∃ g, u.heap.size = g := ⟨_, rfl⟩
  obtain ⟨gp, hgp⟩ : ∃ g, u1.heap.size = g := ⟨_, rfl⟩
  rw [hgp] at q2 ⊢
  rw [hga] at m2 ⊢
  have HGA := Lib.hid hga
  clear hga hgp g1 g2 z1 m1
  have hgp2 := (Array.getElem?_eq_some_iff.1 q2).1
  have rkey_j : ∀ (B : World) (AI : Option Addr) (nI cI : Nat) (W : World), nI ≤ 100 → Ints W .u8 W.heap.size (some ⟨ga, 0, none⟩) 32 ms → Ints W .u8 W.heap.size AI nI ([106, 111, 98] ++ digits id 8) → Calls Tryd.prog 23 #[.slice none 0 0, .slice (some ⟨ga, 0, none⟩) 32 32, .slice AI nI cI] W fun e W' => e = .returned (.agg (arr .u8 jb)) ∧ Below W.heap.size W W' := fun B AI nI cI W hn hk hi => by
    have := rkey_any W.heap.size W.heap.size W.heap.size none (some ⟨ga, 0, none⟩) AI 0 0 32 32 nI cI [] ms ([106, 111, 98] ++ digits id 8) W (Ints.nil _ _ _ _) (Nat.le_refl _) (by omega) hk (Nat.le_refl _) (by omega) hi (Nat.le_refl _) (by omega)
    rwa [show hkey [] ms ([106, 111, 98] ++ digits id 8) = jb by rw [← HJB.out]; unfold kJob; simp [eights]] at this
  refine wp_mono (Q := fun e a' w' => e = .normal ∧ ∃ (p : Nat) (AE : Option Addr) (cE : Nat) (AI : Option Addr) (nI cI gj : Nat), a' = { tmps := #[.agg (arr .u8 ms), .int .u64 id, .agg #[.int .i64 ph, .int .i64 rr, .int .i64 ad, .int .u64 t, .int .i64 ix], .int .i64 fr, .int .u64 sa, .pointer (some ⟨ga, 0, none⟩), undef, .pointer (some ⟨gp, 0, none⟩), undef, undef, .bool false, .pointer (some ⟨gj, 0, none⟩), undef, undef, .slice (some ⟨ga, 0, none⟩) 32 32, .slice (some ⟨p, 0, none⟩) 3 3, .slice (some ⟨p, 0, none⟩) 3 3, .int .u64 id, .slice AE 8 cE, .slice AI nI cI, .agg (arr .u8 jb), undef, undef, undef, undef, undef, undef, undef, undef, undef, undef, undef, undef, undef, undef, undef, undef, undef, undef, undef, undef, undef, undef, undef, undef, undef, undef, undef, undef, undef, undef, undef, undef, undef, undef, undef, undef, undef, undef, undef, undef, undef, undef, undef, undef, undef, undef, undef, undef, undef, undef, undef, undef, undef, undef, undef, undef, undef, undef, undef, undef, undef, undef, undef], defers := [] } ∧ Row w' gj 22 .u8 jb ∧ Below u2.heap.size u2 w') ?_ ?_
  · clear W0 W3
    refine wp_region_held (S := fun W => Below u2.heap.size u2 W) (by kernel_rfl) ?_
    change wpAnyH _ _ _ _ _ _ _ _ u2.drew
    have e0 := (Below.refl u2.heap.size u2).drew
    have c0_0 := e0
    refine Held.take (v := .slice (some ⟨ga, 0, none⟩) 32 32) 0 (some 14) rfl rfl (by kernel_rfl) (by kernel_rfl) (by kernel_rfl) (fun _ _ _ h => by cases h.1) rfl (Held.y_slice rfl (fun X => run_slice_arr_all (P := Tryd.prog) 22 5 32 ga X Tryd.underlying22 (by kernel_rfl) (by omega))) c0_0 ?_
    simp only [Act.put, List.setIfInBounds_toArray, List.set_cons_zero, List.set_cons_succ]
    refine Held.take (v := .int .u64 id) 3 (some 17) rfl rfl (by kernel_rfl) (by kernel_rfl) (by kernel_rfl) (fun _ _ _ h => by cases h.1) rfl (Held.y_move rfl rfl) c0_0 ?_
    simp only [Act.put, List.setIfInBounds_toArray, List.set_cons_zero, List.set_cons_succ]
    refine Held.three 1 4 7 (by kernel_rfl) ?_ ?_ ?_
    · refine Held.op_build_Row 1 (some 15) 34 5 3 .u8 1 [106, 111, 98] rfl rfl rfl rfl Tryd.underlying34 info_u8 (by simp [Act.eval]) rfl (by omega) (by omega) (by decide) ?_
      intro p x1 rT bb hp
      have b1 : Below u2.drew.heap.size u2.drew x1 := ⟨bb.os, bb.tape, bb.output, bb.size, bb.block⟩
      have hpl : u2.heap.size ≤ p := Nat.le_trans e0.size hp.out
      have e1 := e0.trans (b1.mono e0.size)
      have c0_1 := e1
      clear bb hp
      refine ⟨c0_1, ?_⟩
      simp only [Act.put, List.setIfInBounds_toArray, List.set_cons_zero, List.set_cons_succ]
      refine Held.three 2 4 7 (by kernel_rfl) ?_ ?_ ?_
      · refine op_mark 2 (some 16) 34 p 3 [106, 111, 98] rfl rfl rfl rfl rfl Tryd.underlying34 Tryd.underlying5 rT ?_
        intro x2 rM gM
        have e2 := e1.grown gM e1.size (fun r e => by cases e; exact hpl)
        have c0_2 := e2
        clear rT gM
        refine ⟨c0_2, ?_⟩
        simp only [Act.put, List.setIfInBounds_toArray, List.set_cons_zero, List.set_cons_succ]
        refine Held.two 4 7 (by kernel_rfl) ?_ ?_
        · refine Held.op_call 4 (some 18) 24 #[.int .u64 id] rfl rfl rfl rfl (enters_of Tryd.func24 (by kernel_rfl) rfl) (by simp [Act.eval]) (eight_any id x2) ?_
          rintro e x3 ⟨AE, cE, rfl, oE, b3⟩
          have iE := oE.ints (digits_length 8 id)
          have e3 := e2.trans (b3.mono e2.size)
          have rM := rM.below b3
          have c0_3 := e3
          refine ⟨_, rfl, c0_3, ?_⟩
          simp only [Act.put, List.setIfInBounds_toArray, List.set_cons_zero, List.set_cons_succ]
          refine Held.two 5 7 (by kernel_rfl) ?_ ?_
          · refine op_append_text 5 (some 19) 34 rfl rfl rfl rfl Tryd.underlying34 info_u8 p 3 [106, 111, 98] rfl rM rfl x3.heap.size AE 8 cE (digits id 8) rfl iE (by omega) (by omega) ?_
            intro AI nI cI x4 oI b4 hI1 hI2 hI3
            have iI := oI.ints (show ([106, 111, 98] ++ digits id 8).length = nI by rw [List.length_append, hI3.out, digits_length]; rfl)
            have hnI : nI ≤ 100 := by have := hI3.out; omega
            have e4 := e3.trans (b4.mono e3.size)
            have c0_4 := e4
            clear oI rM iE
            refine ⟨c0_4, ?_⟩
            simp only [Act.put, List.setIfInBounds_toArray, List.set_cons_zero, List.set_cons_succ]
            refine Held.two 6 7 (by kernel_rfl) ?_ ?_
            · have hk4 := (m2.below e4 m2.lt).ints (n := 32) (by rw [HM.out]; omega)
              rw [List.take_of_length_le (by rw [HM.out]; omega)] at hk4
              refine Held.op_call 6 (some 20) 23 #[.slice none 0 0, .slice (some ⟨ga, 0, none⟩) 32 32, .slice AI nI cI] rfl rfl rfl rfl (enters_of Tryd.func23 (by kernel_rfl) rfl) (by simp [Act.eval]) (rkey_j x4 AI nI cI x4 hnI hk4 iI) ?_
              rintro e x5 ⟨rfl, b5⟩
              have e5 := e4.trans (b5.mono e4.size)
              have c0_5 := e5
              clear hk4 iI
              refine ⟨_, rfl, c0_5, ?_⟩
              simp only [Act.put, List.setIfInBounds_toArray, List.set_cons_zero, List.set_cons_succ]
              refine Held.one 7 (by kernel_rfl) ?_
              refine Held.op_alloc_Row 7 (some 11) 22 .u8 32 rfl rfl rfl rfl zero_32 ?_
              intro gj x6 rA bb hg
              have b6 : Below x5.heap.size x5 x6 := ⟨bb.os, bb.tape, bb.output, bb.size, bb.block⟩
              have hjl : u2.heap.size ≤ gj := Nat.le_trans e5.size hg.out
              have e6 := e5.trans (b6.mono e5.size)
              have c0_6 := e6
              clear bb hg
              refine ⟨c0_6, ?_⟩
              simp only [Act.put, List.setIfInBounds_toArray, List.set_cons_zero, List.set_cons_succ]
              refine Held.one 8 (by kernel_rfl) ?_
              refine Held.op_store_RowL 8 none 22 gj 22 .u8 _ jb rfl rfl rfl rfl rfl rfl rA 32 info_32 HJ.out (by simp) HJW.out ?_
              intro u5 j5 g5
              have c0_7 := e6.grown g5 e6.size (fun r e => by cases e; exact hjl)
              refine ⟨c0_7, ?_⟩
              simp only [Act.put]
              refine wpAnyH_done (by kernel_rfl) ?_ _
              exact ⟨rfl, p, AE, cE, AI, nI, cI, gj, rfl, j5, c0_7⟩
            · refine Held.op_alloc_Row 7 (some 11) 22 .u8 32 rfl rfl rfl rfl zero_32 ?_
              intro gj x5 rA bb hg
              have b5 : Below x4.heap.size x4 x5 := ⟨bb.os, bb.tape, bb.output, bb.size, bb.block⟩
              have hjl : u2.heap.size ≤ gj := Nat.le_trans e4.size hg.out
              have e5 := e4.trans (b5.mono e4.size)
              have iI := (iI.below b5).more b5.size
              have c0_5 := e5
              clear bb hg
              refine ⟨c0_5, ?_⟩
              simp only [Act.put, List.setIfInBounds_toArray, List.set_cons_zero, List.set_cons_succ]
              refine Held.one 6 (by kernel_rfl) ?_
              have hk4 := (m2.below e5 m2.lt).ints (n := 32) (by rw [HM.out]; omega)
              rw [List.take_of_length_le (by rw [HM.out]; omega)] at hk4
              refine Held.op_call 6 (some 20) 23 #[.slice none 0 0, .slice (some ⟨ga, 0, none⟩) 32 32, .slice AI nI cI] rfl rfl rfl rfl (enters_of Tryd.func23 (by kernel_rfl) rfl) (by simp [Act.eval]) (rkey_j x5 AI nI cI x5 hnI hk4 iI) ?_
              rintro e x6 ⟨rfl, b6⟩
              have e6 := e5.trans (b6.mono e5.size)
              have rA := rA.below b6 rA.lt
              have c0_6 := e6
              clear hk4 iI
              refine ⟨_, rfl, c0_6, ?_⟩
              simp only [Act.put, List.setIfInBounds_toArray, List.set_cons_zero, List.set_cons_succ]
              refine Held.one 8 (by kernel_rfl) ?_
              refine Held.op_store_RowL 8 none 22 gj 22 .u8 _ jb rfl rfl rfl rfl rfl rfl rA 32 info_32 HJ.out (by simp) HJW.out ?_
              intro u5 j5 g5
              have c0_7 := e6.grown g5 e6.size (fun r e => by cases e; exact hjl)
              refine ⟨c0_7, ?_⟩
              simp only [Act.put]
              refine wpAnyH_done (by kernel_rfl) ?_ _
              exact ⟨rfl, p, AE, cE, AI, nI, cI, gj, rfl, j5, c0_7⟩
          · refine Held.op_alloc_Row 7 (some 11) 22 .u8 32 rfl rfl rfl rfl zero_32 ?_
            intro gj x4 rA bb hg
            have b4 : Below x3.heap.size x3 x4 := ⟨bb.os, bb.tape, bb.output, bb.size, bb.block⟩
            have hjl : u2.heap.size ≤ gj := Nat.le_trans e3.size hg.out
            have e4 := e3.trans (b4.mono e3.size)
            have rM := rM.below b4
            have iE := (iE.below b4).more b4.size
            have c0_4 := e4
            clear bb hg
            refine ⟨c0_4, ?_⟩
            simp only [Act.put, List.setIfInBounds_toArray, List.set_cons_zero, List.set_cons_succ]
            refine Held.one 5 (by kernel_rfl) ?_
            refine op_append_text 5 (some 19) 34 rfl rfl rfl rfl Tryd.underlying34 info_u8 p 3 [106, 111, 98] rfl rM rfl x4.heap.size AE 8 cE (digits id 8) rfl iE (by omega) (by omega) ?_
            intro AI nI cI x5 oI b5 hI1 hI2 hI3
            have iI := oI.ints (show ([106, 111, 98] ++ digits id 8).length = nI by rw [List.length_append, hI3.out, digits_length]; rfl)
            have hnI : nI ≤ 100 := by have := hI3.out; omega
            have e5 := e4.trans (b5.mono e4.size)
            have rA := rA.below b5 rA.lt
            have c0_5 := e5
            clear oI rM iE
            refine ⟨c0_5, ?_⟩
            simp only [Act.put, List.setIfInBounds_toArray, List.set_cons_zero, List.set_cons_succ]
            refine Held.one 6 (by kernel_rfl) ?_
            have hk4 := (m2.below e5 m2.lt).ints (n := 32) (by rw [HM.out]; omega)
            rw [List.take_of_length_le (by rw [HM.out]; omega)] at hk4
            refine Held.op_call 6 (some 20) 23 #[.slice none 0 0, .slice (some ⟨ga, 0, none⟩) 32 32, .slice AI nI cI] rfl rfl rfl rfl (enters_of Tryd.func23 (by kernel_rfl) rfl) (by simp [Act.eval]) (rkey_j x5 AI nI cI x5 hnI hk4 iI) ?_
            rintro e x6 ⟨rfl, b6⟩
            have e6 := e5.trans (b6.mono e5.size)
            have rA := rA.below b6 rA.lt
            have c0_6 := e6
            clear hk4 iI
            refine ⟨_, rfl, c0_6, ?_⟩
            simp only [Act.put, List.setIfInBounds_toArray, List.set_cons_zero, List.set_cons_succ]
            refine Held.one 8 (by kernel_rfl) ?_
            refine Held.op_store_RowL 8 none 22 gj 22 .u8 _ jb rfl rfl rfl rfl rfl rfl rA 32 info_32 HJ.out (by simp) HJW.out ?_
            intro u5 j5 g5
            have c0_7 := e6.grown g5 e6.size (fun r e => by cases e; exact hjl)
            refine ⟨c0_7, ?_⟩
            simp only [Act.put]
            refine wpAnyH_done (by kernel_rfl) ?_ _
            exact ⟨rfl, p, AE, cE, AI, nI, cI, gj, rfl, j5, c0_7⟩
        · refine Held.op_alloc_Row 7 (some 11) 22 .u8 32 rfl rfl rfl rfl zero_32 ?_
          intro gj x3 rA bb hg
          have b3 : Below x2.heap.size x2 x3 := ⟨bb.os, bb.tape, bb.output, bb.size, bb.block⟩
          have hjl : u2.heap.size ≤ gj := Nat.le_trans e2.size hg.out
          have e3 := e2.trans (b3.mono e2.size)
          have rM := rM.below b3
          have c0_3 := e3
          clear bb hg
          refine ⟨c0_3, ?_⟩
          simp only [Act.put, List.setIfInBounds_toArray, List.set_cons_zero, List.set_cons_succ]
          refine Held.one 4 (by kernel_rfl) ?_
          refine Held.op_call 4 (some 18) 24 #[.int .u64 id] rfl rfl rfl rfl (enters_of Tryd.func24 (by kernel_rfl) rfl) (by simp [Act.eval]) (eight_any id x3) ?_
          rintro e x4 ⟨AE, cE, rfl, oE, b4⟩
          have iE := oE.ints (digits_length 8 id)
          have e4 := e3.trans (b4.mono e3.size)
          have rM := rM.below b4
          have rA := rA.below b4 rA.lt
          have c0_4 := e4
          refine ⟨_, rfl, c0_4, ?_⟩
          simp only [Act.put, List.setIfInBounds_toArray, List.set_cons_zero, List.set_cons_succ]
          refine Held.one 5 (by kernel_rfl) ?_
          refine op_append_text 5 (some 19) 34 rfl rfl rfl rfl Tryd.underlying34 info_u8 p 3 [106, 111, 98] rfl rM rfl x4.heap.size AE 8 cE (digits id 8) rfl iE (by omega) (by omega) ?_
          intro AI nI cI x5 oI b5 hI1 hI2 hI3
          have iI := oI.ints (show ([106, 111, 98] ++ digits id 8).length = nI by rw [List.length_append, hI3.out, digits_length]; rfl)
          have hnI : nI ≤ 100 := by have := hI3.out; omega
          have e5 := e4.trans (b5.mono e4.size)
          have rA := rA.below b5 rA.lt
          have c0_5 := e5
          clear oI rM iE
          refine ⟨c0_5, ?_⟩
          simp only [Act.put, List.setIfInBounds_toArray, List.set_cons_zero, List.set_cons_succ]
          refine Held.one 6 (by kernel_rfl) ?_
          have hk4 := (m2.below e5 m2.lt).ints (n := 32) (by rw [HM.out]; omega)
          rw [List.take_of_length_le (by rw [HM.out]; omega)] at hk4
          refine Held.op_call 6 (some 20) 23 #[.slice none 0 0, .slice (some ⟨ga, 0, none⟩) 32 32, .slice AI nI cI] rfl rfl rfl rfl (enters_of Tryd.func23 (by kernel_rfl) rfl) (by simp [Act.eval]) (rkey_j x5 AI nI cI x5 hnI hk4 iI) ?_
          rintro e x6 ⟨rfl, b6⟩
          have e6 := e5.trans (b6.mono e5.size)
          have rA := rA.below b6 rA.lt
          have c0_6 := e6
          clear hk4 iI
          refine ⟨_, rfl, c0_6, ?_⟩
          simp only [Act.put, List.setIfInBounds_toArray, List.set_cons_zero, List.set_cons_succ]
          refine Held.one 8 (by kernel_rfl) ?_
          refine Held.op_store_RowL 8 none 22 gj 22 .u8 _ jb rfl rfl rfl rfl rfl rfl rA 32 info_32 HJ.out (by simp) HJW.out ?_
          intro u5 j5 g5
          have c0_7 := e6.grown g5 e6.size (fun r e => by cases e; exact hjl)
          refine ⟨c0_7, ?_⟩
          simp only [Act.put]
          refine wpAnyH_done (by kernel_rfl) ?_ _
          exact ⟨rfl, p, AE, cE, AI, nI, cI, gj, rfl, j5, c0_7⟩
      · have rT0 := rT.lt
        refine Held.op_call 4 (some 18) 24 #[.int .u64 id] rfl rfl rfl rfl (enters_of Tryd.func24 (by kernel_rfl) rfl) (by simp [Act.eval]) (eight_any id x1) ?_
        rintro e x2 ⟨AE, cE, rfl, oE, b2⟩
        have iE := oE.ints (digits_length 8 id)
        have iE_of : ∀ {wa wm : World}, Below x2.heap.size x2 wa → wa.grownBy wm (some p) → Ints wm .u8 wm.heap.size AE 8 (digits id 8) := fun {wa wm} ba g => ((oE.below ba).kept g (by cases hq : (Value.slice AE 8 cE).ownBlock with | none => exact .inl rfl | some r => exact .inr (fun e => by injection e with e; have h1 := (oE.2.lt r hq).1; have h2 := rT0; subst e; omega))).ints (digits_length 8 id)
        have e2 := e1.trans (b2.mono e1.size)
        have rT := rT.below b2 rT.lt
        have c0_2 := e2
        refine ⟨_, rfl, c0_2, ?_⟩
        simp only [Act.put, List.setIfInBounds_toArray, List.set_cons_zero, List.set_cons_succ]
        refine Held.two 2 7 (by kernel_rfl) ?_ ?_
        · refine op_mark 2 (some 16) 34 p 3 [106, 111, 98] rfl rfl rfl rfl rfl Tryd.underlying34 Tryd.underlying5 rT ?_
          intro x3 rM gM
          have e3 := e2.grown gM e2.size (fun r e => by cases e; exact hpl)
          have iE := iE_of (Below.refl _ _) gM
          have c0_3 := e3
          clear rT gM
          refine ⟨c0_3, ?_⟩
          simp only [Act.put, List.setIfInBounds_toArray, List.set_cons_zero, List.set_cons_succ]
          refine Held.two 5 7 (by kernel_rfl) ?_ ?_
          · refine op_append_text 5 (some 19) 34 rfl rfl rfl rfl Tryd.underlying34 info_u8 p 3 [106, 111, 98] rfl rM rfl x3.heap.size AE 8 cE (digits id 8) rfl iE (by omega) (by omega) ?_
            intro AI nI cI x4 oI b4 hI1 hI2 hI3
            have iI := oI.ints (show ([106, 111, 98] ++ digits id 8).length = nI by rw [List.length_append, hI3.out, digits_length]; rfl)
            have hnI : nI ≤ 100 := by have := hI3.out; omega
            have e4 := e3.trans (b4.mono e3.size)
            have c0_4 := e4
            clear oI rM iE
            refine ⟨c0_4, ?_⟩
            simp only [Act.put, List.setIfInBounds_toArray, List.set_cons_zero, List.set_cons_succ]
            refine Held.two 6 7 (by kernel_rfl) ?_ ?_
            · have hk4 := (m2.below e4 m2.lt).ints (n := 32) (by rw [HM.out]; omega)
              rw [List.take_of_length_le (by rw [HM.out]; omega)] at hk4
              refine Held.op_call 6 (some 20) 23 #[.slice none 0 0, .slice (some ⟨ga, 0, none⟩) 32 32, .slice AI nI cI] rfl rfl rfl rfl (enters_of Tryd.func23 (by kernel_rfl) rfl) (by simp [Act.eval]) (rkey_j x4 AI nI cI x4 hnI hk4 iI) ?_
              rintro e x5 ⟨rfl, b5⟩
              have e5 := e4.trans (b5.mono e4.size)
              have c0_5 := e5
              clear hk4 iI
              refine ⟨_, rfl, c0_5, ?_⟩
              simp only [Act.put, List.setIfInBounds_toArray, List.set_cons_zero, List.set_cons_succ]
              refine Held.one 7 (by kernel_rfl) ?_
              refine Held.op_alloc_Row 7 (some 11) 22 .u8 32 rfl rfl rfl rfl zero_32 ?_
              intro gj x6 rA bb hg
              have b6 : Below x5.heap.size x5 x6 := ⟨bb.os, bb.tape, bb.output, bb.size, bb.block⟩
              have hjl : u2.heap.size ≤ gj := Nat.le_trans e5.size hg.out
              have e6 := e5.trans (b6.mono e5.size)
              have c0_6 := e6
              clear bb hg
              refine ⟨c0_6, ?_⟩
              simp only [Act.put, List.setIfInBounds_toArray, List.set_cons_zero, List.set_cons_succ]
              refine Held.one 8 (by kernel_rfl) ?_
              refine Held.op_store_RowL 8 none 22 gj 22 .u8 _ jb rfl rfl rfl rfl rfl rfl rA 32 info_32 HJ.out (by simp) HJW.out ?_
              intro u5 j5 g5
              have c0_7 := e6.grown g5 e6.size (fun r e => by cases e; exact hjl)
              refine ⟨c0_7, ?_⟩
              simp only [Act.put]
              refine wpAnyH_done (by kernel_rfl) ?_ _
              exact ⟨rfl, p, AE, cE, AI, nI, cI, gj, rfl, j5, c0_7⟩
            · refine Held.op_alloc_Row 7 (some 11) 22 .u8 32 rfl rfl rfl rfl zero_32 ?_
              intro gj x5 rA bb hg
              have b5 : Below x4.heap.size x4 x5 := ⟨bb.os, bb.tape, bb.output, bb.size, bb.block⟩
              have hjl : u2.heap.size ≤ gj := Nat.le_trans e4.size hg.out
              have e5 := e4.trans (b5.mono e4.size)
              have iI := (iI.below b5).more b5.size
              have c0_5 := e5
              clear bb hg
              refine ⟨c0_5, ?_⟩
              simp only [Act.put, List.setIfInBounds_toArray, List.set_cons_zero, List.set_cons_succ]
              refine Held.one 6 (by kernel_rfl) ?_
              have hk4 := (m2.below e5 m2.lt).ints (n := 32) (by rw [HM.out]; omega)
              rw [List.take_of_length_le (by rw [HM.out]; omega)] at hk4
              refine Held.op_call 6 (some 20) 23 #[.slice none 0 0, .slice (some ⟨ga, 0, none⟩) 32 32, .slice AI nI cI] rfl rfl rfl rfl (enters_of Tryd.func23 (by kernel_rfl) rfl) (by simp [Act.eval]) (rkey_j x5 AI nI cI x5 hnI hk4 iI) ?_
              rintro e x6 ⟨rfl, b6⟩
              have e6 := e5.trans (b6.mono e5.size)
              have rA := rA.below b6 rA.lt
              have c0_6 := e6
              clear hk4 iI
              refine ⟨_, rfl, c0_6, ?_⟩
              simp only [Act.put, List.setIfInBounds_toArray, List.set_cons_zero, List.set_cons_succ]
              refine Held.one 8 (by kernel_rfl) ?_
              refine Held.op_store_RowL 8 none 22 gj 22 .u8 _ jb rfl rfl rfl rfl rfl rfl rA 32 info_32 HJ.out (by simp) HJW.out ?_
              intro u5 j5 g5
              have c0_7 := e6.grown g5 e6.size (fun r e => by cases e; exact hjl)
              refine ⟨c0_7, ?_⟩
              simp only [Act.put]
              refine wpAnyH_done (by kernel_rfl) ?_ _
              exact ⟨rfl, p, AE, cE, AI, nI, cI, gj, rfl, j5, c0_7⟩
          · refine Held.op_alloc_Row 7 (some 11) 22 .u8 32 rfl rfl rfl rfl zero_32 ?_
            intro gj x4 rA bb hg
            have b4 : Below x3.heap.size x3 x4 := ⟨bb.os, bb.tape, bb.output, bb.size, bb.block⟩
            have hjl : u2.heap.size ≤ gj := Nat.le_trans e3.size hg.out
            have e4 := e3.trans (b4.mono e3.size)
            have rM := rM.below b4
            have iE := (iE.below b4).more b4.size
            have c0_4 := e4
            clear bb hg
            refine ⟨c0_4, ?_⟩
            simp only [Act.put, List.setIfInBounds_toArray, List.set_cons_zero, List.set_cons_succ]
            refine Held.one 5 (by kernel_rfl) ?_
            refine op_append_text 5 (some 19) 34 rfl rfl rfl rfl Tryd.underlying34 info_u8 p 3 [106, 111, 98] rfl rM rfl x4.heap.size AE 8 cE (digits id 8) rfl iE (by omega) (by omega) ?_
            intro AI nI cI x5 oI b5 hI1 hI2 hI3
            have iI := oI.ints (show ([106, 111, 98] ++ digits id 8).length = nI by rw [List.length_append, hI3.out, digits_length]; rfl)
            have hnI : nI ≤ 100 := by have := hI3.out; omega
            have e5 := e4.trans (b5.mono e4.size)
            have rA := rA.below b5 rA.lt
            have c0_5 := e5
            clear oI rM iE
            refine ⟨c0_5, ?_⟩
            simp only [Act.put, List.setIfInBounds_toArray, List.set_cons_zero, List.set_cons_succ]
            refine Held.one 6 (by kernel_rfl) ?_
            have hk4 := (m2.below e5 m2.lt).ints (n := 32) (by rw [HM.out]; omega)
            rw [List.take_of_length_le (by rw [HM.out]; omega)] at hk4
            refine Held.op_call 6 (some 20) 23 #[.slice none 0 0, .slice (some ⟨ga, 0, none⟩) 32 32, .slice AI nI cI] rfl rfl rfl rfl (enters_of Tryd.func23 (by kernel_rfl) rfl) (by simp [Act.eval]) (rkey_j x5 AI nI cI x5 hnI hk4 iI) ?_
            rintro e x6 ⟨rfl, b6⟩
            have e6 := e5.trans (b6.mono e5.size)
            have rA := rA.below b6 rA.lt
            have c0_6 := e6
            clear hk4 iI
            refine ⟨_, rfl, c0_6, ?_⟩
            simp only [Act.put, List.setIfInBounds_toArray, List.set_cons_zero, List.set_cons_succ]
            refine Held.one 8 (by kernel_rfl) ?_
            refine Held.op_store_RowL 8 none 22 gj 22 .u8 _ jb rfl rfl rfl rfl rfl rfl rA 32 info_32 HJ.out (by simp) HJW.out ?_
            intro u5 j5 g5
            have c0_7 := e6.grown g5 e6.size (fun r e => by cases e; exact hjl)
            refine ⟨c0_7, ?_⟩
            simp only [Act.put]
            refine wpAnyH_done (by kernel_rfl) ?_ _
            exact ⟨rfl, p, AE, cE, AI, nI, cI, gj, rfl, j5, c0_7⟩
        · refine Held.op_alloc_Row 7 (some 11) 22 .u8 32 rfl rfl rfl rfl zero_32 ?_
          intro gj x3 rA bb hg
          have b3 : Below x2.heap.size x2 x3 := ⟨bb.os, bb.tape, bb.output, bb.size, bb.block⟩
          have hjl : u2.heap.size ≤ gj := Nat.le_trans e2.size hg.out
          have hjp : gj ≠ p := fun e => by subst e; exact absurd (Nat.lt_of_lt_of_le rT.lt hg.out) (Nat.lt_irrefl _)
          have bw := b3
          have e3 := e2.trans (b3.mono e2.size)
          have rT := rT.below b3 rT.lt
          have iE := (iE.below b3).more b3.size
          have c0_3 := e3
          clear bb hg
          refine ⟨c0_3, ?_⟩
          simp only [Act.put, List.setIfInBounds_toArray, List.set_cons_zero, List.set_cons_succ]
          refine Held.one 2 (by kernel_rfl) ?_
          refine op_mark 2 (some 16) 34 p 3 [106, 111, 98] rfl rfl rfl rfl rfl Tryd.underlying34 Tryd.underlying5 rT ?_
          intro x4 rM gM
          have e4 := e3.grown gM e3.size (fun r e => by cases e; exact hpl)
          have rA := rA.grown gM (by intro e; injection e with e; exact hjp e)
          have iE := iE_of bw gM
          have c0_4 := e4
          clear rT gM
          refine ⟨c0_4, ?_⟩
          simp only [Act.put, List.setIfInBounds_toArray, List.set_cons_zero, List.set_cons_succ]
          refine Held.one 5 (by kernel_rfl) ?_
          refine op_append_text 5 (some 19) 34 rfl rfl rfl rfl Tryd.underlying34 info_u8 p 3 [106, 111, 98] rfl rM rfl x4.heap.size AE 8 cE (digits id 8) rfl iE (by omega) (by omega) ?_
          intro AI nI cI x5 oI b5 hI1 hI2 hI3
          have iI := oI.ints (show ([106, 111, 98] ++ digits id 8).length = nI by rw [List.length_append, hI3.out, digits_length]; rfl)
          have hnI : nI ≤ 100 := by have := hI3.out; omega
          have e5 := e4.trans (b5.mono e4.size)
          have rA := rA.below b5 rA.lt
          have c0_5 := e5
          clear oI rM iE
          refine ⟨c0_5, ?_⟩
          simp only [Act.put, List.setIfInBounds_toArray, List.set_cons_zero, List.set_cons_succ]
          refine Held.one 6 (by kernel_rfl) ?_
          have hk4 := (m2.below e5 m2.lt).ints (n := 32) (by rw [HM.out]; omega)
          rw [List.take_of_length_le (by rw [HM.out]; omega)] at hk4
          refine Held.op_call 6 (some 20) 23 #[.slice none 0 0, .slice (some ⟨ga, 0, none⟩) 32 32, .slice AI nI cI] rfl rfl rfl rfl (enters_of Tryd.func23 (by kernel_rfl) rfl) (by simp [Act.eval]) (rkey_j x5 AI nI cI x5 hnI hk4 iI) ?_
          rintro e x6 ⟨rfl, b6⟩
          have e6 := e5.trans (b6.mono e5.size)
          have rA := rA.below b6 rA.lt
          have c0_6 := e6
          clear hk4 iI
          refine ⟨_, rfl, c0_6, ?_⟩
          simp only [Act.put, List.setIfInBounds_toArray, List.set_cons_zero, List.set_cons_succ]
          refine Held.one 8 (by kernel_rfl) ?_
          refine Held.op_store_RowL 8 none 22 gj 22 .u8 _ jb rfl rfl rfl rfl rfl rfl rA 32 info_32 HJ.out (by simp) HJW.out ?_
          intro u5 j5 g5
          have c0_7 := e6.grown g5 e6.size (fun r e => by cases e; exact hjl)
          refine ⟨c0_7, ?_⟩
          simp only [Act.put]
          refine wpAnyH_done (by kernel_rfl) ?_ _
          exact ⟨rfl, p, AE, cE, AI, nI, cI, gj, rfl, j5, c0_7⟩
      · refine Held.op_alloc_Row 7 (some 11) 22 .u8 32 rfl rfl rfl rfl zero_32 ?_
        intro gj x2 rA bb hg
        have b2 : Below x1.heap.size x1 x2 := ⟨bb.os, bb.tape, bb.output, bb.size, bb.block⟩
        have hjl : u2.heap.size ≤ gj := Nat.le_trans e1.size hg.out
        have hjp : gj ≠ p := fun e => by subst e; exact absurd (Nat.lt_of_lt_of_le rT.lt hg.out) (Nat.lt_irrefl _)
        have e2 := e1.trans (b2.mono e1.size)
        have rT := rT.below b2 rT.lt
        have c0_2 := e2
        clear bb hg
        refine ⟨c0_2, ?_⟩
        simp only [Act.put, List.setIfInBounds_toArray, List.set_cons_zero, List.set_cons_succ]
        refine Held.two 2 4 (by kernel_rfl) ?_ ?_
        · refine op_mark 2 (some 16) 34 p 3 [106, 111, 98] rfl rfl rfl rfl rfl Tryd.underlying34 Tryd.underlying5 rT ?_
          intro x3 rM gM
          have e3 := e2.grown gM e2.size (fun r e => by cases e; exact hpl)
          have rA := rA.grown gM (by intro e; injection e with e; exact hjp e)
          have c0_3 := e3
          clear rT gM
          refine ⟨c0_3, ?_⟩
          simp only [Act.put, List.setIfInBounds_toArray, List.set_cons_zero, List.set_cons_succ]
          refine Held.one 4 (by kernel_rfl) ?_
          refine Held.op_call 4 (some 18) 24 #[.int .u64 id] rfl rfl rfl rfl (enters_of Tryd.func24 (by kernel_rfl) rfl) (by simp [Act.eval]) (eight_any id x3) ?_
          rintro e x4 ⟨AE, cE, rfl, oE, b4⟩
          have iE := oE.ints (digits_length 8 id)
          have e4 := e3.trans (b4.mono e3.size)
          have rM := rM.below b4
          have rA := rA.below b4 rA.lt
          have c0_4 := e4
          refine ⟨_, rfl, c0_4, ?_⟩
          simp only [Act.put, List.setIfInBounds_toArray, List.set_cons_zero, List.set_cons_succ]
          refine Held.one 5 (by kernel_rfl) ?_
          refine op_append_text 5 (some 19) 34 rfl rfl rfl rfl Tryd.underlying34 info_u8 p 3 [106, 111, 98] rfl rM rfl x4.heap.size AE 8 cE (digits id 8) rfl iE (by omega) (by omega) ?_
          intro AI nI cI x5 oI b5 hI1 hI2 hI3
          have iI := oI.ints (show ([106, 111, 98] ++ digits id 8).length = nI by rw [List.length_append, hI3.out, digits_length]; rfl)
          have hnI : nI ≤ 100 := by have := hI3.out; omega
          have e5 := e4.trans (b5.mono e4.size)
          have rA := rA.below b5 rA.lt
          have c0_5 := e5
          clear oI rM iE
          refine ⟨c0_5, ?_⟩
          simp only [Act.put, List.setIfInBounds_toArray, List.set_cons_zero, List.set_cons_succ]
          refine Held.one 6 (by kernel_rfl) ?_
          have hk4 := (m2.below e5 m2.lt).ints (n := 32) (by rw [HM.out]; omega)
          rw [List.take_of_length_le (by rw [HM.out]; omega)] at hk4
          refine Held.op_call 6 (some 20) 23 #[.slice none 0 0, .slice (some ⟨ga, 0, none⟩) 32 32, .slice AI nI cI] rfl rfl rfl rfl (enters_of Tryd.func23 (by kernel_rfl) rfl) (by simp [Act.eval]) (rkey_j x5 AI nI cI x5 hnI hk4 iI) ?_
          rintro e x6 ⟨rfl, b6⟩
          have e6 := e5.trans (b6.mono e5.size)
          have rA := rA.below b6 rA.lt
          have c0_6 := e6
          clear hk4 iI
          refine ⟨_, rfl, c0_6, ?_⟩
          simp only [Act.put, List.setIfInBounds_toArray, List.set_cons_zero, List.set_cons_succ]
          refine Held.one 8 (by kernel_rfl) ?_
          refine Held.op_store_RowL 8 none 22 gj 22 .u8 _ jb rfl rfl rfl rfl rfl rfl rA 32 info_32 HJ.out (by simp) HJW.out ?_
          intro u5 j5 g5
          have c0_7 := e6.grown g5 e6.size (fun r e => by cases e; exact hjl)
          refine ⟨c0_7, ?_⟩
          simp only [Act.put]
          refine wpAnyH_done (by kernel_rfl) ?_ _
          exact ⟨rfl, p, AE, cE, AI, nI, cI, gj, rfl, j5, c0_7⟩
        · have rT0 := rT.lt
          refine Held.op_call 4 (some 18) 24 #[.int .u64 id] rfl rfl rfl rfl (enters_of Tryd.func24 (by kernel_rfl) rfl) (by simp [Act.eval]) (eight_any id x2) ?_
          rintro e x3 ⟨AE, cE, rfl, oE, b3⟩
          have iE := oE.ints (digits_length 8 id)
          have iE_of : ∀ {wa wm : World}, Below x3.heap.size x3 wa → wa.grownBy wm (some p) → Ints wm .u8 wm.heap.size AE 8 (digits id 8) := fun {wa wm} ba g => ((oE.below ba).kept g (by cases hq : (Value.slice AE 8 cE).ownBlock with | none => exact .inl rfl | some r => exact .inr (fun e => by injection e with e; have h1 := (oE.2.lt r hq).1; have h2 := rT0; subst e; omega))).ints (digits_length 8 id)
          have e3 := e2.trans (b3.mono e2.size)
          have rT := rT.below b3 rT.lt
          have rA := rA.below b3 rA.lt
          have c0_3 := e3
          refine ⟨_, rfl, c0_3, ?_⟩
          simp only [Act.put, List.setIfInBounds_toArray, List.set_cons_zero, List.set_cons_succ]
          refine Held.one 2 (by kernel_rfl) ?_
          refine op_mark 2 (some 16) 34 p 3 [106, 111, 98] rfl rfl rfl rfl rfl Tryd.underlying34 Tryd.underlying5 rT ?_
          intro x4 rM gM
          have e4 := e3.grown gM e3.size (fun r e => by cases e; exact hpl)
          have rA := rA.grown gM (by intro e; injection e with e; exact hjp e)
          have iE := iE_of (Below.refl _ _) gM
          have c0_4 := e4
          clear rT gM
          refine ⟨c0_4, ?_⟩
          simp only [Act.put, List.setIfInBounds_toArray, List.set_cons_zero, List.set_cons_succ]
          refine Held.one 5 (by kernel_rfl) ?_
          refine op_append_text 5 (some 19) 34 rfl rfl rfl rfl Tryd.underlying34 info_u8 p 3 [106, 111, 98] rfl rM rfl x4.heap.size AE 8 cE (digits id 8) rfl iE (by omega) (by omega) ?_
          intro AI nI cI x5 oI b5 hI1 hI2 hI3
          have iI := oI.ints (show ([106, 111, 98] ++ digits id 8).length = nI by rw [List.length_append, hI3.out, digits_length]; rfl)
          have hnI : nI ≤ 100 := by have := hI3.out; omega
          have e5 := e4.trans (b5.mono e4.size)
          have rA := rA.below b5 rA.lt
          have c0_5 := e5
          clear oI rM iE
          refine ⟨c0_5, ?_⟩
          simp only [Act.put, List.setIfInBounds_toArray, List.set_cons_zero, List.set_cons_succ]
          refine Held.one 6 (by kernel_rfl) ?_
          have hk4 := (m2.below e5 m2.lt).ints (n := 32) (by rw [HM.out]; omega)
          rw [List.take_of_length_le (by rw [HM.out]; omega)] at hk4
          refine Held.op_call 6 (some 20) 23 #[.slice none 0 0, .slice (some ⟨ga, 0, none⟩) 32 32, .slice AI nI cI] rfl rfl rfl rfl (enters_of Tryd.func23 (by kernel_rfl) rfl) (by simp [Act.eval]) (rkey_j x5 AI nI cI x5 hnI hk4 iI) ?_
          rintro e x6 ⟨rfl, b6⟩
          have e6 := e5.trans (b6.mono e5.size)
          have rA := rA.below b6 rA.lt
          have c0_6 := e6
          clear hk4 iI
          refine ⟨_, rfl, c0_6, ?_⟩
          simp only [Act.put, List.setIfInBounds_toArray, List.set_cons_zero, List.set_cons_succ]
          refine Held.one 8 (by kernel_rfl) ?_
          refine Held.op_store_RowL 8 none 22 gj 22 .u8 _ jb rfl rfl rfl rfl rfl rfl rA 32 info_32 HJ.out (by simp) HJW.out ?_
          intro u5 j5 g5
          have c0_7 := e6.grown g5 e6.size (fun r e => by cases e; exact hjl)
          refine ⟨c0_7, ?_⟩
          simp only [Act.put]
          refine wpAnyH_done (by kernel_rfl) ?_ _
          exact ⟨rfl, p, AE, cE, AI, nI, cI, gj, rfl, j5, c0_7⟩
    · refine Held.op_call 4 (some 18) 24 #[.int .u64 id] rfl rfl rfl rfl (enters_of Tryd.func24 (by kernel_rfl) rfl) (by simp [Act.eval]) (eight_any id u2.drew) ?_
      rintro e x1 ⟨AE, cE, rfl, oE, b1⟩
      have iE := oE.ints (digits_length 8 id)
      have e1 := e0.trans (b1.mono e0.size)
      have c0_1 := e1
      refine ⟨_, rfl, c0_1, ?_⟩
      simp only [Act.put, List.setIfInBounds_toArray, List.set_cons_zero, List.set_cons_succ]
      refine Held.two 1 7 (by kernel_rfl) ?_ ?_
      · refine Held.op_build_Row 1 (some 15) 34 5 3 .u8 1 [106, 111, 98] rfl rfl rfl rfl Tryd.underlying34 info_u8 (by simp [Act.eval]) rfl (by omega) (by omega) (by decide) ?_
        intro p x2 rT bb hp
        have b2 : Below x1.heap.size x1 x2 := ⟨bb.os, bb.tape, bb.output, bb.size, bb.block⟩
        have hpl : u2.heap.size ≤ p := Nat.le_trans e1.size hp.out
        have iE_of : ∀ {wa wm : World}, Below x2.heap.size x2 wa → wa.grownBy wm (some p) → Ints wm .u8 wm.heap.size AE 8 (digits id 8) := fun {wa wm} ba g => (((iE.below b2).below (ba.mono b2.size)).keep (fun z hz => World.cell?_of_block (g.block _ (Nat.lt_of_lt_of_le hz (Nat.le_trans b2.size ba.size)) (fun e => by injection e with e; have h1 : x1.heap.size ≤ p := hp.out; omega)))).more (Nat.le_trans (Nat.le_trans b2.size ba.size) g.size)
        have e2 := e1.trans (b2.mono e1.size)
        have iE := (iE.below b2).more b2.size
        have c0_2 := e2
        clear bb hp
        refine ⟨c0_2, ?_⟩
        simp only [Act.put, List.setIfInBounds_toArray, List.set_cons_zero, List.set_cons_succ]
        refine Held.two 2 7 (by kernel_rfl) ?_ ?_
        · refine op_mark 2 (some 16) 34 p 3 [106, 111, 98] rfl rfl rfl rfl rfl Tryd.underlying34 Tryd.underlying5 rT ?_
          intro x3 rM gM
          have e3 := e2.grown gM e2.size (fun r e => by cases e; exact hpl)
          have iE := iE_of (Below.refl _ _) gM
          have c0_3 := e3
          clear rT gM
          refine ⟨c0_3, ?_⟩
          simp only [Act.put, List.setIfInBounds_toArray, List.set_cons_zero, List.set_cons_succ]
          refine Held.two 5 7 (by kernel_rfl) ?_ ?_
          · refine op_append_text 5 (some 19) 34 rfl rfl rfl rfl Tryd.underlying34 info_u8 p 3 [106, 111, 98] rfl rM rfl x3.heap.size AE 8 cE (digits id 8) rfl iE (by omega) (by omega) ?_
            intro AI nI cI x4 oI b4 hI1 hI2 hI3
            have iI := oI.ints (show ([106, 111, 98] ++ digits id 8).length = nI by rw [List.length_append, hI3.out, digits_length]; rfl)
            have hnI : nI ≤ 100 := by have := hI3.out; omega
            have e4 := e3.trans (b4.mono e3.size)
            have c0_4 := e4
            clear oI rM iE
            refine ⟨c0_4, ?_⟩
            simp only [Act.put, List.setIfInBounds_toArray, List.set_cons_zero, List.set_cons_succ]
            refine Held.two 6 7 (by kernel_rfl) ?_ ?_
            · have hk4 := (m2.below e4 m2.lt).ints (n := 32) (by rw [HM.out]; omega)
              rw [List.take_of_length_le (by rw [HM.out]; omega)] at hk4
              refine Held.op_call 6 (some 20) 23 #[.slice none 0 0, .slice (some ⟨ga, 0, none⟩) 32 32, .slice AI nI cI] rfl rfl rfl rfl (enters_of Tryd.func23 (by kernel_rfl) rfl) (by simp [Act.eval]) (rkey_j x4 AI nI cI x4 hnI hk4 iI) ?_
              rintro e x5 ⟨rfl, b5⟩
              have e5 := e4.trans (b5.mono e4.size)
              have c0_5 := e5
              clear hk4 iI
              refine ⟨_, rfl, c0_5, ?_⟩
              simp only [Act.put, List.setIfInBounds_toArray, List.set_cons_zero, List.set_cons_succ]
              refine Held.one 7 (by kernel_rfl) ?_
              refine Held.op_alloc_Row 7 (some 11) 22 .u8 32 rfl rfl rfl rfl zero_32 ?_
              intro gj x6 rA bb hg
              have b6 : Below x5.heap.size x5 x6 := ⟨bb.os, bb.tape, bb.output, bb.size, bb.block⟩
              have hjl : u2.heap.size ≤ gj := Nat.le_trans e5.size hg.out
              have e6 := e5.trans (b6.mono e5.size)
              have c0_6 := e6
              clear bb hg
              refine ⟨c0_6, ?_⟩
              simp only [Act.put, List.setIfInBounds_toArray, List.set_cons_zero, List.set_cons_succ]
              refine Held.one 8 (by kernel_rfl) ?_
              refine Held.op_store_RowL 8 none 22 gj 22 .u8 _ jb rfl rfl rfl rfl rfl rfl rA 32 info_32 HJ.out (by simp) HJW.out ?_
              intro u5 j5 g5
              have c0_7 := e6.grown g5 e6.size (fun r e => by cases e; exact hjl)
              refine ⟨c0_7, ?_⟩
              simp only [Act.put]
              refine wpAnyH_done (by kernel_rfl) ?_ _
              exact ⟨rfl, p, AE, cE, AI, nI, cI, gj, rfl, j5, c0_7⟩
            · refine Held.op_alloc_Row 7 (some 11) 22 .u8 32 rfl rfl rfl rfl zero_32 ?_
              intro gj x5 rA bb hg
              have b5 : Below x4.heap.size x4 x5 := ⟨bb.os, bb.tape, bb.output, bb.size, bb.block⟩
              have hjl : u2.heap.size ≤ gj := Nat.le_trans e4.size hg.out
              have e5 := e4.trans (b5.mono e4.size)
              have iI := (iI.below b5).more b5.size
              have c0_5 := e5
              clear bb hg
              refine ⟨c0_5, ?_⟩
              simp only [Act.put, List.setIfInBounds_toArray, List.set_cons_zero, List.set_cons_succ]
              refine Held.one 6 (by kernel_rfl) ?_
              have hk4 := (m2.below e5 m2.lt).ints (n := 32) (by rw [HM.out]; omega)
              rw [List.take_of_length_le (by rw [HM.out]; omega)] at hk4
              refine Held.op_call 6 (some 20) 23 #[.slice none 0 0, .slice (some ⟨ga, 0, none⟩) 32 32, .slice AI nI cI] rfl rfl rfl rfl (enters_of Tryd.func23 (by kernel_rfl) rfl) (by simp [Act.eval]) (rkey_j x5 AI nI cI x5 hnI hk4 iI) ?_
              rintro e x6 ⟨rfl, b6⟩
              have e6 := e5.trans (b6.mono e5.size)
              have rA := rA.below b6 rA.lt
              have c0_6 := e6
              clear hk4 iI
              refine ⟨_, rfl, c0_6, ?_⟩
              simp only [Act.put, List.setIfInBounds_toArray, List.set_cons_zero, List.set_cons_succ]
              refine Held.one 8 (by kernel_rfl) ?_
              refine Held.op_store_RowL 8 none 22 gj 22 .u8 _ jb rfl rfl rfl rfl rfl rfl rA 32 info_32 HJ.out (by simp) HJW.out ?_
              intro u5 j5 g5
              have c0_7 := e6.grown g5 e6.size (fun r e => by cases e; exact hjl)
              refine ⟨c0_7, ?_⟩
              simp only [Act.put]
              refine wpAnyH_done (by kernel_rfl) ?_ _
              exact ⟨rfl, p, AE, cE, AI, nI, cI, gj, rfl, j5, c0_7⟩
          · refine Held.op_alloc_Row 7 (some 11) 22 .u8 32 rfl rfl rfl rfl zero_32 ?_
            intro gj x4 rA bb hg
            have b4 : Below x3.heap.size x3 x4 := ⟨bb.os, bb.tape, bb.output, bb.size, bb.block⟩
            have hjl : u2.heap.size ≤ gj := Nat.le_trans e3.size hg.out
            have e4 := e3.trans (b4.mono e3.size)
            have rM := rM.below b4
            have iE := (iE.below b4).more b4.size
            have c0_4 := e4
            clear bb hg
            refine ⟨c0_4, ?_⟩
            simp only [Act.put, List.setIfInBounds_toArray, List.set_cons_zero, List.set_cons_succ]
            refine Held.one 5 (by kernel_rfl) ?_
            refine op_append_text 5 (some 19) 34 rfl rfl rfl rfl Tryd.underlying34 info_u8 p 3 [106, 111, 98] rfl rM rfl x4.heap.size AE 8 cE (digits id 8) rfl iE (by omega) (by omega) ?_
            intro AI nI cI x5 oI b5 hI1 hI2 hI3
            have iI := oI.ints (show ([106, 111, 98] ++ digits id 8).length = nI by rw [List.length_append, hI3.out, digits_length]; rfl)
            have hnI : nI ≤ 100 := by have := hI3.out; omega
            have e5 := e4.trans (b5.mono e4.size)
            have rA := rA.below b5 rA.lt
            have c0_5 := e5
            clear oI rM iE
            refine ⟨c0_5, ?_⟩
            simp only [Act.put, List.setIfInBounds_toArray, List.set_cons_zero, List.set_cons_succ]
            refine Held.one 6 (by kernel_rfl) ?_
            have hk4 := (m2.below e5 m2.lt).ints (n := 32) (by rw [HM.out]; omega)
            rw [List.take_of_length_le (by rw [HM.out]; omega)] at hk4
            refine Held.op_call 6 (some 20) 23 #[.slice none 0 0, .slice (some ⟨ga, 0, none⟩) 32 32, .slice AI nI cI] rfl rfl rfl rfl (enters_of Tryd.func23 (by kernel_rfl) rfl) (by simp [Act.eval]) (rkey_j x5 AI nI cI x5 hnI hk4 iI) ?_
            rintro e x6 ⟨rfl, b6⟩
            have e6 := e5.trans (b6.mono e5.size)
            have rA := rA.below b6 rA.lt
            have c0_6 := e6
            clear hk4 iI
            refine ⟨_, rfl, c0_6, ?_⟩
            simp only [Act.put, List.setIfInBounds_toArray, List.set_cons_zero, List.set_cons_succ]
            refine Held.one 8 (by kernel_rfl) ?_
            refine Held.op_store_RowL 8 none 22 gj 22 .u8 _ jb rfl rfl rfl rfl rfl rfl rA 32 info_32 HJ.out (by simp) HJW.out ?_
            intro u5 j5 g5
            have c0_7 := e6.grown g5 e6.size (fun r e => by cases e; exact hjl)
            refine ⟨c0_7, ?_⟩
            simp only [Act.put]
            refine wpAnyH_done (by kernel_rfl) ?_ _
            exact ⟨rfl, p, AE, cE, AI, nI, cI, gj, rfl, j5, c0_7⟩
        · refine Held.op_alloc_Row 7 (some 11) 22 .u8 32 rfl rfl rfl rfl zero_32 ?_
          intro gj x3 rA bb hg
          have b3 : Below x2.heap.size x2 x3 := ⟨bb.os, bb.tape, bb.output, bb.size, bb.block⟩
          have hjl : u2.heap.size ≤ gj := Nat.le_trans e2.size hg.out
          have hjp : gj ≠ p := fun e => by subst e; exact absurd (Nat.lt_of_lt_of_le rT.lt hg.out) (Nat.lt_irrefl _)
          have bw := b3
          have e3 := e2.trans (b3.mono e2.size)
          have rT := rT.below b3 rT.lt
          have iE := (iE.below b3).more b3.size
          have c0_3 := e3
          clear bb hg
          refine ⟨c0_3, ?_⟩
          simp only [Act.put, List.setIfInBounds_toArray, List.set_cons_zero, List.set_cons_succ]
          refine Held.one 2 (by kernel_rfl) ?_
          refine op_mark 2 (some 16) 34 p 3 [106, 111, 98] rfl rfl rfl rfl rfl Tryd.underlying34 Tryd.underlying5 rT ?_
          intro x4 rM gM
          have e4 := e3.grown gM e3.size (fun r e => by cases e; exact hpl)
          have rA := rA.grown gM (by intro e; injection e with e; exact hjp e)
          have iE := iE_of bw gM
          have c0_4 := e4
          clear rT gM
          refine ⟨c0_4, ?_⟩
          simp only [Act.put, List.setIfInBounds_toArray, List.set_cons_zero, List.set_cons_succ]
          refine Held.one 5 (by kernel_rfl) ?_
          refine op_append_text 5 (some 19) 34 rfl rfl rfl rfl Tryd.underlying34 info_u8 p 3 [106, 111, 98] rfl rM rfl x4.heap.size AE 8 cE (digits id 8) rfl iE (by omega) (by omega) ?_
          intro AI nI cI x5 oI b5 hI1 hI2 hI3
          have iI := oI.ints (show ([106, 111, 98] ++ digits id 8).length = nI by rw [List.length_append, hI3.out, digits_length]; rfl)
          have hnI : nI ≤ 100 := by have := hI3.out; omega
          have e5 := e4.trans (b5.mono e4.size)
          have rA := rA.below b5 rA.lt
          have c0_5 := e5
          clear oI rM iE
          refine ⟨c0_5, ?_⟩
          simp only [Act.put, List.setIfInBounds_toArray, List.set_cons_zero, List.set_cons_succ]
          refine Held.one 6 (by kernel_rfl) ?_
          have hk4 := (m2.below e5 m2.lt).ints (n := 32) (by rw [HM.out]; omega)
          rw [List.take_of_length_le (by rw [HM.out]; omega)] at hk4
          refine Held.op_call 6 (some 20) 23 #[.slice none 0 0, .slice (some ⟨ga, 0, none⟩) 32 32, .slice AI nI cI] rfl rfl rfl rfl (enters_of Tryd.func23 (by kernel_rfl) rfl) (by simp [Act.eval]) (rkey_j x5 AI nI cI x5 hnI hk4 iI) ?_
          rintro e x6 ⟨rfl, b6⟩
          have e6 := e5.trans (b6.mono e5.size)
          have rA := rA.below b6 rA.lt
          have c0_6 := e6
          clear hk4 iI
          refine ⟨_, rfl, c0_6, ?_⟩
          simp only [Act.put, List.setIfInBounds_toArray, List.set_cons_zero, List.set_cons_succ]
          refine Held.one 8 (by kernel_rfl) ?_
          refine Held.op_store_RowL 8 none 22 gj 22 .u8 _ jb rfl rfl rfl rfl rfl rfl rA 32 info_32 HJ.out (by simp) HJW.out ?_
          intro u5 j5 g5
          have c0_7 := e6.grown g5 e6.size (fun r e => by cases e; exact hjl)
          refine ⟨c0_7, ?_⟩
          simp only [Act.put]
          refine wpAnyH_done (by kernel_rfl) ?_ _
          exact ⟨rfl, p, AE, cE, AI, nI, cI, gj, rfl, j5, c0_7⟩
      · refine Held.op_alloc_Row 7 (some 11) 22 .u8 32 rfl rfl rfl rfl zero_32 ?_
        intro gj x2 rA bb hg
        have b2 : Below x1.heap.size x1 x2 := ⟨bb.os, bb.tape, bb.output, bb.size, bb.block⟩
        have hjl : u2.heap.size ≤ gj := Nat.le_trans e1.size hg.out
        have e2 := e1.trans (b2.mono e1.size)
        have iE := (iE.below b2).more b2.size
        have c0_2 := e2
        clear bb hg
        refine ⟨c0_2, ?_⟩
        simp only [Act.put, List.setIfInBounds_toArray, List.set_cons_zero, List.set_cons_succ]
        refine Held.one 1 (by kernel_rfl) ?_
        refine Held.op_build_Row 1 (some 15) 34 5 3 .u8 1 [106, 111, 98] rfl rfl rfl rfl Tryd.underlying34 info_u8 (by simp [Act.eval]) rfl (by omega) (by omega) (by decide) ?_
        intro p x3 rT bb hp
        have b3 : Below x2.heap.size x2 x3 := ⟨bb.os, bb.tape, bb.output, bb.size, bb.block⟩
        have hpl : u2.heap.size ≤ p := Nat.le_trans e2.size hp.out
        have hjp : gj ≠ p := fun e => by subst e; exact absurd (Nat.lt_of_lt_of_le rA.lt hp.out) (Nat.lt_irrefl _)
        have iE_of : ∀ {wa wm : World}, Below x3.heap.size x3 wa → wa.grownBy wm (some p) → Ints wm .u8 wm.heap.size AE 8 (digits id 8) := fun {wa wm} ba g => (((iE.below b3).below (ba.mono b3.size)).keep (fun z hz => World.cell?_of_block (g.block _ (Nat.lt_of_lt_of_le hz (Nat.le_trans b3.size ba.size)) (fun e => by injection e with e; have h1 : x2.heap.size ≤ p := hp.out; omega)))).more (Nat.le_trans (Nat.le_trans b3.size ba.size) g.size)
        have e3 := e2.trans (b3.mono e2.size)
        have iE := (iE.below b3).more b3.size
        have rA := rA.below b3 rA.lt
        have c0_3 := e3
        clear bb hp
        refine ⟨c0_3, ?_⟩
        simp only [Act.put, List.setIfInBounds_toArray, List.set_cons_zero, List.set_cons_succ]
        refine Held.one 2 (by kernel_rfl) ?_
        refine op_mark 2 (some 16) 34 p 3 [106, 111, 98] rfl rfl rfl rfl rfl Tryd.underlying34 Tryd.underlying5 rT ?_
        intro x4 rM gM
        have e4 := e3.grown gM e3.size (fun r e => by cases e; exact hpl)
        have rA := rA.grown gM (by intro e; injection e with e; exact hjp e)
        have iE := iE_of (Below.refl _ _) gM
        have c0_4 := e4
        clear rT gM
        refine ⟨c0_4, ?_⟩
        simp only [Act.put, List.setIfInBounds_toArray, List.set_cons_zero, List.set_cons_succ]
        refine Held.one 5 (by kernel_rfl) ?_
        refine op_append_text 5 (some 19) 34 rfl rfl rfl rfl Tryd.underlying34 info_u8 p 3 [106, 111, 98] rfl rM rfl x4.heap.size AE 8 cE (digits id 8) rfl iE (by omega) (by omega) ?_
        intro AI nI cI x5 oI b5 hI1 hI2 hI3
        have iI := oI.ints (show ([106, 111, 98] ++ digits id 8).length = nI by rw [List.length_append, hI3.out, digits_length]; rfl)
        have hnI : nI ≤ 100 := by have := hI3.out; omega
        have e5 := e4.trans (b5.mono e4.size)
        have rA := rA.below b5 rA.lt
        have c0_5 := e5
        clear oI rM iE
        refine ⟨c0_5, ?_⟩
        simp only [Act.put, List.setIfInBounds_toArray, List.set_cons_zero, List.set_cons_succ]
        refine Held.one 6 (by kernel_rfl) ?_
        have hk4 := (m2.below e5 m2.lt).ints (n := 32) (by rw [HM.out]; omega)
        rw [List.take_of_length_le (by rw [HM.out]; omega)] at hk4
        refine Held.op_call 6 (some 20) 23 #[.slice none 0 0, .slice (some ⟨ga, 0, none⟩) 32 32, .slice AI nI cI] rfl rfl rfl rfl (enters_of Tryd.func23 (by kernel_rfl) rfl) (by simp [Act.eval]) (rkey_j x5 AI nI cI x5 hnI hk4 iI) ?_
        rintro e x6 ⟨rfl, b6⟩
        have e6 := e5.trans (b6.mono e5.size)
        have rA := rA.below b6 rA.lt
        have c0_6 := e6
        clear hk4 iI
        refine ⟨_, rfl, c0_6, ?_⟩
        simp only [Act.put, List.setIfInBounds_toArray, List.set_cons_zero, List.set_cons_succ]
        refine Held.one 8 (by kernel_rfl) ?_
        refine Held.op_store_RowL 8 none 22 gj 22 .u8 _ jb rfl rfl rfl rfl rfl rfl rA 32 info_32 HJ.out (by simp) HJW.out ?_
        intro u5 j5 g5
        have c0_7 := e6.grown g5 e6.size (fun r e => by cases e; exact hjl)
        refine ⟨c0_7, ?_⟩
        simp only [Act.put]
        refine wpAnyH_done (by kernel_rfl) ?_ _
        exact ⟨rfl, p, AE, cE, AI, nI, cI, gj, rfl, j5, c0_7⟩
    · refine Held.op_alloc_Row 7 (some 11) 22 .u8 32 rfl rfl rfl rfl zero_32 ?_
      intro gj x1 rA bb hg
      have b1 : Below u2.drew.heap.size u2.drew x1 := ⟨bb.os, bb.tape, bb.output, bb.size, bb.block⟩
      have hjl : u2.heap.size ≤ gj := Nat.le_trans e0.size hg.out
      have e1 := e0.trans (b1.mono e0.size)
      have c0_1 := e1
      clear bb hg
      refine ⟨c0_1, ?_⟩
      simp only [Act.put, List.setIfInBounds_toArray, List.set_cons_zero, List.set_cons_succ]
      refine Held.two 1 4 (by kernel_rfl) ?_ ?_
      · refine Held.op_build_Row 1 (some 15) 34 5 3 .u8 1 [106, 111, 98] rfl rfl rfl rfl Tryd.underlying34 info_u8 (by simp [Act.eval]) rfl (by omega) (by omega) (by decide) ?_
        intro p x2 rT bb hp
        have b2 : Below x1.heap.size x1 x2 := ⟨bb.os, bb.tape, bb.output, bb.size, bb.block⟩
        have hpl : u2.heap.size ≤ p := Nat.le_trans e1.size hp.out
        have hjp : gj ≠ p := fun e => by subst e; exact absurd (Nat.lt_of_lt_of_le rA.lt hp.out) (Nat.lt_irrefl _)
        have e2 := e1.trans (b2.mono e1.size)
        have rA := rA.below b2 rA.lt
        have c0_2 := e2
        clear bb hp
        refine ⟨c0_2, ?_⟩
        simp only [Act.put, List.setIfInBounds_toArray, List.set_cons_zero, List.set_cons_succ]
        refine Held.two 2 4 (by kernel_rfl) ?_ ?_
        · refine op_mark 2 (some 16) 34 p 3 [106, 111, 98] rfl rfl rfl rfl rfl Tryd.underlying34 Tryd.underlying5 rT ?_
          intro x3 rM gM
          have e3 := e2.grown gM e2.size (fun r e => by cases e; exact hpl)
          have rA := rA.grown gM (by intro e; injection e with e; exact hjp e)
          have c0_3 := e3
          clear rT gM
          refine ⟨c0_3, ?_⟩
          simp only [Act.put, List.setIfInBounds_toArray, List.set_cons_zero, List.set_cons_succ]
          refine Held.one 4 (by kernel_rfl) ?_
          refine Held.op_call 4 (some 18) 24 #[.int .u64 id] rfl rfl rfl rfl (enters_of Tryd.func24 (by kernel_rfl) rfl) (by simp [Act.eval]) (eight_any id x3) ?_
          rintro e x4 ⟨AE, cE, rfl, oE, b4⟩
          have iE := oE.ints (digits_length 8 id)
          have e4 := e3.trans (b4.mono e3.size)
          have rM := rM.below b4
          have rA := rA.below b4 rA.lt
          have c0_4 := e4
          refine ⟨_, rfl, c0_4, ?_⟩
          simp only [Act.put, List.setIfInBounds_toArray, List.set_cons_zero, List.set_cons_succ]
          refine Held.one 5 (by kernel_rfl) ?_
          refine op_append_text 5 (some 19) 34 rfl rfl rfl rfl Tryd.underlying34 info_u8 p 3 [106, 111, 98] rfl rM rfl x4.heap.size AE 8 cE (digits id 8) rfl iE (by omega) (by omega) ?_
          intro AI nI cI x5 oI b5 hI1 hI2 hI3
          have iI := oI.ints (show ([106, 111, 98] ++ digits id 8).length = nI by rw [List.length_append, hI3.out, digits_length]; rfl)
          have hnI : nI ≤ 100 := by have := hI3.out; omega
          have e5 := e4.trans (b5.mono e4.size)
          have rA := rA.below b5 rA.lt
          have c0_5 := e5
          clear oI rM iE
          refine ⟨c0_5, ?_⟩
          simp only [Act.put, List.setIfInBounds_toArray, List.set_cons_zero, List.set_cons_succ]
          refine Held.one 6 (by kernel_rfl) ?_
          have hk4 := (m2.below e5 m2.lt).ints (n := 32) (by rw [HM.out]; omega)
          rw [List.take_of_length_le (by rw [HM.out]; omega)] at hk4
          refine Held.op_call 6 (some 20) 23 #[.slice none 0 0, .slice (some ⟨ga, 0, none⟩) 32 32, .slice AI nI cI] rfl rfl rfl rfl (enters_of Tryd.func23 (by kernel_rfl) rfl) (by simp [Act.eval]) (rkey_j x5 AI nI cI x5 hnI hk4 iI) ?_
          rintro e x6 ⟨rfl, b6⟩
          have e6 := e5.trans (b6.mono e5.size)
          have rA := rA.below b6 rA.lt
          have c0_6 := e6
          clear hk4 iI
          refine ⟨_, rfl, c0_6, ?_⟩
          simp only [Act.put, List.setIfInBounds_toArray, List.set_cons_zero, List.set_cons_succ]
          refine Held.one 8 (by kernel_rfl) ?_
          refine Held.op_store_RowL 8 none 22 gj 22 .u8 _ jb rfl rfl rfl rfl rfl rfl rA 32 info_32 HJ.out (by simp) HJW.out ?_
          intro u5 j5 g5
          have c0_7 := e6.grown g5 e6.size (fun r e => by cases e; exact hjl)
          refine ⟨c0_7, ?_⟩
          simp only [Act.put]
          refine wpAnyH_done (by kernel_rfl) ?_ _
          exact ⟨rfl, p, AE, cE, AI, nI, cI, gj, rfl, j5, c0_7⟩
        · have rT0 := rT.lt
          refine Held.op_call 4 (some 18) 24 #[.int .u64 id] rfl rfl rfl rfl (enters_of Tryd.func24 (by kernel_rfl) rfl) (by simp [Act.eval]) (eight_any id x2) ?_
          rintro e x3 ⟨AE, cE, rfl, oE, b3⟩
          have iE := oE.ints (digits_length 8 id)
          have iE_of : ∀ {wa wm : World}, Below x3.heap.size x3 wa → wa.grownBy wm (some p) → Ints wm .u8 wm.heap.size AE 8 (digits id 8) := fun {wa wm} ba g => ((oE.below ba).kept g (by cases hq : (Value.slice AE 8 cE).ownBlock with | none => exact .inl rfl | some r => exact .inr (fun e => by injection e with e; have h1 := (oE.2.lt r hq).1; have h2 := rT0; subst e; omega))).ints (digits_length 8 id)
          have e3 := e2.trans (b3.mono e2.size)
          have rT := rT.below b3 rT.lt
          have rA := rA.below b3 rA.lt
          have c0_3 := e3
          refine ⟨_, rfl, c0_3, ?_⟩
          simp only [Act.put, List.setIfInBounds_toArray, List.set_cons_zero, List.set_cons_succ]
          refine Held.one 2 (by kernel_rfl) ?_
          refine op_mark 2 (some 16) 34 p 3 [106, 111, 98] rfl rfl rfl rfl rfl Tryd.underlying34 Tryd.underlying5 rT ?_
          intro x4 rM gM
          have e4 := e3.grown gM e3.size (fun r e => by cases e; exact hpl)
          have rA := rA.grown gM (by intro e; injection e with e; exact hjp e)
          have iE := iE_of (Below.refl _ _) gM
          have c0_4 := e4
          clear rT gM
          refine ⟨c0_4, ?_⟩
          simp only [Act.put, List.setIfInBounds_toArray, List.set_cons_zero, List.set_cons_succ]
          refine Held.one 5 (by kernel_rfl) ?_
          refine op_append_text 5 (some 19) 34 rfl rfl rfl rfl Tryd.underlying34 info_u8 p 3 [106, 111, 98] rfl rM rfl x4.heap.size AE 8 cE (digits id 8) rfl iE (by omega) (by omega) ?_
          intro AI nI cI x5 oI b5 hI1 hI2 hI3
          have iI := oI.ints (show ([106, 111, 98] ++ digits id 8).length = nI by rw [List.length_append, hI3.out, digits_length]; rfl)
          have hnI : nI ≤ 100 := by have := hI3.out; omega
          have e5 := e4.trans (b5.mono e4.size)
          have rA := rA.below b5 rA.lt
          have c0_5 := e5
          clear oI rM iE
          refine ⟨c0_5, ?_⟩
          simp only [Act.put, List.setIfInBounds_toArray, List.set_cons_zero, List.set_cons_succ]
          refine Held.one 6 (by kernel_rfl) ?_
          have hk4 := (m2.below e5 m2.lt).ints (n := 32) (by rw [HM.out]; omega)
          rw [List.take_of_length_le (by rw [HM.out]; omega)] at hk4
          refine Held.op_call 6 (some 20) 23 #[.slice none 0 0, .slice (some ⟨ga, 0, none⟩) 32 32, .slice AI nI cI] rfl rfl rfl rfl (enters_of Tryd.func23 (by kernel_rfl) rfl) (by simp [Act.eval]) (rkey_j x5 AI nI cI x5 hnI hk4 iI) ?_
          rintro e x6 ⟨rfl, b6⟩
          have e6 := e5.trans (b6.mono e5.size)
          have rA := rA.below b6 rA.lt
          have c0_6 := e6
          clear hk4 iI
          refine ⟨_, rfl, c0_6, ?_⟩
          simp only [Act.put, List.setIfInBounds_toArray, List.set_cons_zero, List.set_cons_succ]
          refine Held.one 8 (by kernel_rfl) ?_
          refine Held.op_store_RowL 8 none 22 gj 22 .u8 _ jb rfl rfl rfl rfl rfl rfl rA 32 info_32 HJ.out (by simp) HJW.out ?_
          intro u5 j5 g5
          have c0_7 := e6.grown g5 e6.size (fun r e => by cases e; exact hjl)
          refine ⟨c0_7, ?_⟩
          simp only [Act.put]
          refine wpAnyH_done (by kernel_rfl) ?_ _
          exact ⟨rfl, p, AE, cE, AI, nI, cI, gj, rfl, j5, c0_7⟩
      · refine Held.op_call 4 (some 18) 24 #[.int .u64 id] rfl rfl rfl rfl (enters_of Tryd.func24 (by kernel_rfl) rfl) (by simp [Act.eval]) (eight_any id x1) ?_
        rintro e x2 ⟨AE, cE, rfl, oE, b2⟩
        have iE := oE.ints (digits_length 8 id)
        have e2 := e1.trans (b2.mono e1.size)
        have rA := rA.below b2 rA.lt
        have c0_2 := e2
        refine ⟨_, rfl, c0_2, ?_⟩
        simp only [Act.put, List.setIfInBounds_toArray, List.set_cons_zero, List.set_cons_succ]
        refine Held.one 1 (by kernel_rfl) ?_
        refine Held.op_build_Row 1 (some 15) 34 5 3 .u8 1 [106, 111, 98] rfl rfl rfl rfl Tryd.underlying34 info_u8 (by simp [Act.eval]) rfl (by omega) (by omega) (by decide) ?_
        intro p x3 rT bb hp
        have b3 : Below x2.heap.size x2 x3 := ⟨bb.os, bb.tape, bb.output, bb.size, bb.block⟩
        have hpl : u2.heap.size ≤ p := Nat.le_trans e2.size hp.out
        have hjp : gj ≠ p := fun e => by subst e; exact absurd (Nat.lt_of_lt_of_le rA.lt hp.out) (Nat.lt_irrefl _)
        have iE_of : ∀ {wa wm : World}, Below x3.heap.size x3 wa → wa.grownBy wm (some p) → Ints wm .u8 wm.heap.size AE 8 (digits id 8) := fun {wa wm} ba g => (((iE.below b3).below (ba.mono b3.size)).keep (fun z hz => World.cell?_of_block (g.block _ (Nat.lt_of_lt_of_le hz (Nat.le_trans b3.size ba.size)) (fun e => by injection e with e; have h1 : x2.heap.size ≤ p := hp.out; omega)))).more (Nat.le_trans (Nat.le_trans b3.size ba.size) g.size)
        have e3 := e2.trans (b3.mono e2.size)
        have iE := (iE.below b3).more b3.size
        have rA := rA.below b3 rA.lt
        have c0_3 := e3
        clear bb hp
        refine ⟨c0_3, ?_⟩
        simp only [Act.put, List.setIfInBounds_toArray, List.set_cons_zero, List.set_cons_succ]
        refine Held.one 2 (by kernel_rfl) ?_
        refine op_mark 2 (some 16) 34 p 3 [106, 111, 98] rfl rfl rfl rfl rfl Tryd.underlying34 Tryd.underlying5 rT ?_
        intro x4 rM gM
        have e4 := e3.grown gM e3.size (fun r e => by cases e; exact hpl)
        have rA := rA.grown gM (by intro e; injection e with e; exact hjp e)
        have iE := iE_of (Below.refl _ _) gM
        have c0_4 := e4
        clear rT gM
        refine ⟨c0_4, ?_⟩
        simp only [Act.put, List.setIfInBounds_toArray, List.set_cons_zero, List.set_cons_succ]
        refine Held.one 5 (by kernel_rfl) ?_
        refine op_append_text 5 (some 19) 34 rfl rfl rfl rfl Tryd.underlying34 info_u8 p 3 [106, 111, 98] rfl rM rfl x4.heap.size AE 8 cE (digits id 8) rfl iE (by omega) (by omega) ?_
        intro AI nI cI x5 oI b5 hI1 hI2 hI3
        have iI := oI.ints (show ([106, 111, 98] ++ digits id 8).length = nI by rw [List.length_append, hI3.out, digits_length]; rfl)
        have hnI : nI ≤ 100 := by have := hI3.out; omega
        have e5 := e4.trans (b5.mono e4.size)
        have rA := rA.below b5 rA.lt
        have c0_5 := e5
        clear oI rM iE
        refine ⟨c0_5, ?_⟩
        simp only [Act.put, List.setIfInBounds_toArray, List.set_cons_zero, List.set_cons_succ]
        refine Held.one 6 (by kernel_rfl) ?_
        have hk4 := (m2.below e5 m2.lt).ints (n := 32) (by rw [HM.out]; omega)
        rw [List.take_of_length_le (by rw [HM.out]; omega)] at hk4
        refine Held.op_call 6 (some 20) 23 #[.slice none 0 0, .slice (some ⟨ga, 0, none⟩) 32 32, .slice AI nI cI] rfl rfl rfl rfl (enters_of Tryd.func23 (by kernel_rfl) rfl) (by simp [Act.eval]) (rkey_j x5 AI nI cI x5 hnI hk4 iI) ?_
        rintro e x6 ⟨rfl, b6⟩
        have e6 := e5.trans (b6.mono e5.size)
        have rA := rA.below b6 rA.lt
        have c0_6 := e6
        clear hk4 iI
        refine ⟨_, rfl, c0_6, ?_⟩
        simp only [Act.put, List.setIfInBounds_toArray, List.set_cons_zero, List.set_cons_succ]
        refine Held.one 8 (by kernel_rfl) ?_
        refine Held.op_store_RowL 8 none 22 gj 22 .u8 _ jb rfl rfl rfl rfl rfl rfl rA 32 info_32 HJ.out (by simp) HJW.out ?_
        intro u5 j5 g5
        have c0_7 := e6.grown g5 e6.size (fun r e => by cases e; exact hjl)
        refine ⟨c0_7, ?_⟩
        simp only [Act.put]
        refine wpAnyH_done (by kernel_rfl) ?_ _
        exact ⟨rfl, p, AE, cE, AI, nI, cI, gj, rfl, j5, c0_7⟩
  rintro e a' u5 ⟨rfl, p, AE, cE, AI, nI, cI, gj, rfl, j5, b5⟩
  have bu5 : Below u.heap.size u u5 := bu2.trans (b5.mono bu2.size)
  have m5 := m2.below b5 m2.lt
  have q5 := (b5.block gp hgp2).trans q2
  have hgp5 := (Array.getElem?_eq_some_iff.1 q5).1
  have f0 : u5.cell? ⟨gp, 0, none⟩ = some (.int .i64 ph) := by rw [cell_of_row u5 gp 0 _ _ _ q5]; rfl
  clear b5 m2 q2 hgp2 bu2 rkey_j
  dsimp only
  go_wp2_with (first
    | (refine wpList_text (w := u5) rfl rfl 34 5 5 _ _ rfl rfl [112, 108, 97, 99, 101] Tryd.underlying34 Tryd.underlying5 (by kernel_rfl) (by kernel_rfl) rfl (by omega) (by omega) rfl (by decide) rfl ?_; intro u6 t6 b6 z6; have f0 := (b6.cell (p := ⟨gp, 0, none⟩) hgp5).trans f0))
  refine (eight_any (u64 ph) u6).mono ?_
  rintro e u7 ⟨A7, c7, rfl, o7, b7⟩
  have i7 := o7.ints (digits_length 8 (u64 ph))
  have t7 := t6.below b7
  obtain ⟨pt, hpt⟩ : ∃ g, u5.heap.size = g := ⟨_, rfl⟩
  have s67 : u5.heap.size ≤ u7.heap.size := Nat.le_trans b6.size b7.size
  have b57 := b6.trans (b7.mono b6.size)
  rw [hpt] at t7 ⊢
  have HPT := Lib.hid hpt
  clear hpt t6 b6 b7 z6 o7
  go_wp2_with (at_builtin; refine wpList_append_grow (w := u7) rfl _ _ 34 rfl Tryd.underlying34 info_u8 pt 5 [112, 108, 97, 99, 101] rfl _ t7 u7.heap.size A7 8 c7 (digits (u64 ph) 8) rfl i7 (by omega) (by omega) ?_; intro A8 n8 c8 u8 o8 b8 h8a h8b h8n)
  obtain ⟨B0, hB0⟩ : ∃ B, u7.heap.size = B := ⟨_, rfl⟩
  have hB08 : B0 ≤ u8.heap.size := by rw [← hB0]; exact b8.size
  have hgpB : gp < B0 := by rw [← hB0]; exact Nat.lt_of_lt_of_le hgp5 s67
  have h5B : u5.heap.size ≤ B0 := by rw [← hB0]; exact s67
  have b58 := b57.trans (b8.mono s67)
  have q8 := (b58.block gp hgp5).trans q5
  have f1 : u8.cell? ⟨gp, 1, none⟩ = some (.int .i64 rr) := by rw [cell_of_row u8 gp 1 _ _ _ q8]; rfl
  have f2 : u8.cell? ⟨gp, 2, none⟩ = some (.int .i64 ad) := by rw [cell_of_row u8 gp 2 _ _ _ q8]; rfl
  rw [hB0] at o8
  have HB0 := Lib.hid hB0
  clear hB0 b57 b8 s67 t7 i7 h8a h8b f0 q8
  refine wp_region_held (S := fun W => Below B0 u8 W) (by kernel_rfl) ?_
  change wpAnyH _ _ _ _ _ _ _ _ u8.drew
  have c0_0 := (Below.refl B0 u8).drew
  refine Held.take (v := .slice A8 n8 c8) 0 (some 28) rfl rfl (by kernel_rfl) (by kernel_rfl) (by kernel_rfl) (fun _ _ _ h => h) rfl (Held.y_move rfl rfl) c0_0 ?_
  simp only [Act.put, List.setIfInBounds_toArray, List.set_cons_zero, List.set_cons_succ]
  refine Held.take (v := .pointer (some ⟨gp, 1, none⟩)) 1 (some 29) rfl rfl (by kernel_rfl) (by kernel_rfl) (by kernel_rfl) (fun _ _ _ h => h) rfl (y_place (by omega) rfl rfl) c0_0 ?_
  simp only [Act.put, List.setIfInBounds_toArray, List.set_cons_zero, List.set_cons_succ]
  refine Held.take (v := .int .i64 rr) 2 (some 30) rfl rfl (by kernel_rfl) (by kernel_rfl) (by kernel_rfl) (fun _ _ _ h => h) rfl (Held.y_load rfl rfl (by kernel_rfl) (fun W hW => (hW.cell (p := ⟨gp, 1, none⟩) hgpB).trans f1)) c0_0 ?_
  simp only [Act.put, List.setIfInBounds_toArray, List.set_cons_zero, List.set_cons_succ]
  refine Held.take (v := .int .u64 (u64 rr)) 3 (some 31) rfl rfl (by kernel_rfl) (by kernel_rfl) (by kernel_rfl) (fun _ _ _ h => h) rfl (Held.y_convert rfl rfl (by kernel_rfl) Tryd.underlying23 (u64_eq _)) c0_0 ?_
  simp only [Act.put, List.setIfInBounds_toArray, List.set_cons_zero, List.set_cons_succ]
  refine Held.take (v := .pointer (some ⟨gp, 2, none⟩)) 6 (some 34) rfl rfl (by kernel_rfl) (by kernel_rfl) (by kernel_rfl) (fun _ _ _ h => h) rfl (y_place (by omega) rfl rfl) c0_0 ?_
  simp only [Act.put, List.setIfInBounds_toArray, List.set_cons_zero, List.set_cons_succ]
  refine Held.take (v := .int .i64 ad) 7 (some 35) rfl rfl (by kernel_rfl) (by kernel_rfl) (by kernel_rfl) (fun _ _ _ h => h) rfl (Held.y_load rfl rfl (by kernel_rfl) (fun W hW => (hW.cell (p := ⟨gp, 2, none⟩) hgpB).trans f2)) c0_0 ?_
  simp only [Act.put, List.setIfInBounds_toArray, List.set_cons_zero, List.set_cons_succ]
  refine Held.take (v := .int .u64 (u64 ad)) 8 (some 36) rfl rfl (by kernel_rfl) (by kernel_rfl) (by kernel_rfl) (fun _ _ _ h => h) rfl (Held.y_convert rfl rfl (by kernel_rfl) Tryd.underlying23 (u64_eq _)) c0_0 ?_
  simp only [Act.put, List.setIfInBounds_toArray, List.set_cons_zero, List.set_cons_succ]
  refine Held.one 4 (by kernel_rfl) ?_
  refine Held.op_call 4 (some 32) 24 #[.int .u64 (u64 rr)] rfl rfl rfl rfl (enters_of Tryd.func24 (by kernel_rfl) rfl) (by simp [Act.eval]) (eight_any (u64 rr) u8.drew) ?_
  rintro e y1 ⟨A9, c9, rfl, o9, b9⟩
  have c0_1 := c0_0.trans (b9.mono hB08)
  have io9 := o9.ints (digits_length 8 (u64 rr))
  have bq : Below u8.heap.size u8 y1 := ⟨b9.os, b9.tape, b9.output, b9.size, b9.block⟩
  have o8 := o8.below bq
  clear bq
  refine ⟨_, rfl, c0_1, ?_⟩
  simp only [Act.put, List.setIfInBounds_toArray, List.set_cons_zero, List.set_cons_succ]
  refine Held.one 5 (by kernel_rfl) ?_
  refine Held.op_append_ints 5 (some 33) 34 rfl rfl rfl rfl B0 5 .u8 1 Tryd.underlying34 info_u8 (.slice A8 n8 c8) ([112, 108, 97, 99, 101] ++ digits (u64 ph) 8) rfl o8 y1.heap.size A9 8 c9 (digits (u64 rr) 8) rfl io9 (by simp [digits_length]) (by omega) (Nat.le_trans hB08 c0_1.size) ?_
  intro A10 n10 c10 y2 o10 g2 ha2 hb2 hn2 ii2
  have c0_2 := c0_1.grown g2 (Nat.le_trans hB08 c0_1.size) (fun r e => (o8.2.lt r e).1)
  refine ⟨c0_2, ?_⟩
  simp only [Act.put, List.setIfInBounds_toArray, List.set_cons_zero, List.set_cons_succ]
  refine Held.one 9 (by kernel_rfl) ?_
  refine Held.op_call 9 (some 37) 24 #[.int .u64 (u64 ad)] rfl rfl rfl rfl (enters_of Tryd.func24 (by kernel_rfl) rfl) (by simp [Act.eval]) (eight_any (u64 ad) y2) ?_
  rintro e y3 ⟨A11, c11, rfl, o11, b11⟩
  have c0_3 := c0_2.trans (b11.mono (Nat.le_trans hB08 c0_2.size))
  have io11 := o11.ints (digits_length 8 (u64 ad))
  have o10 := o10.below b11
  refine ⟨_, rfl, c0_3, ?_⟩
  simp only [Act.put, List.setIfInBounds_toArray, List.set_cons_zero, List.set_cons_succ]
  refine Held.one 10 (by kernel_rfl) ?_
  refine Held.op_append_ints 10 (some 38) 34 rfl rfl rfl rfl B0 5 .u8 1 Tryd.underlying34 info_u8 (.slice A10 n10 c10) (([112, 108, 97, 99, 101] ++ digits (u64 ph) 8) ++ digits (u64 rr) 8) rfl o10 y3.heap.size A11 8 c11 (digits (u64 ad) 8) rfl io11 (by simp [digits_length]) (by omega) (Nat.le_trans hB08 c0_3.size) ?_
  intro AP nP cP y4 oP g4 ha4 hb4 hn4 ii4
  have c0_4 := c0_3.grown g4 (Nat.le_trans hB08 c0_3.size) (fun r e => (o10.2.lt r e).1)
  refine ⟨c0_4, ?_⟩
  simp only [Act.put, List.setIfInBounds_toArray, List.set_cons_zero, List.set_cons_succ]
  refine Held.take (v := .slice AP nP cP) 11 (some 12) rfl rfl (by kernel_rfl) (by kernel_rfl) (by kernel_rfl) (fun _ _ _ h => h) rfl (Held.y_assign rfl rfl) c0_4 ?_
  simp only [Act.put, List.setIfInBounds_toArray, List.set_cons_zero, List.set_cons_succ]
  refine wpAnyH_done (by kernel_rfl) ?_ _
  skip
  have HPB := Lib.hid (show (([112, 108, 97, 99, 101] ++ digits (u64 ph) 8) ++ digits (u64 rr) 8) ++ digits (u64 ad) 8 = [112, 108, 97, 99, 101] ++ eights [u64 ph, u64 rr, u64 ad] by simp [eights])
  rw [HPB.out] at oP
  have by4 := b58.trans (c0_4.mono h5B)
  obtain ⟨Ax, cx, ex, hcx, hmx, iP⟩ := oP.form
  injection ex with ex1 ex2 ex3
  have HNP := Lib.hid (show nP = 29 by rw [ex2, List.length_append, eights_length]; rfl)
  rw [← ex2, ← ex1] at iP
  clear ex1 ex2 ex3 hcx hmx oP o8 o10 o9 o11 io9 io11 f1 f2 g2 g4 ii2 ii4 hn2 hn4 ha2 ha4 hb2 hb4 b9 b11 b58 c0_0 c0_1 c0_2 c0_3 c0_4
  go_wp2_with (first
    | (refine wpList_text (w := y4) rfl rfl 34 5 6 _ _ rfl rfl [115, 101, 110, 100, 101, 114] Tryd.underlying34 Tryd.underlying5 (by kernel_rfl) (by kernel_rfl) rfl (by omega) (by omega) rfl (by decide) rfl ?_; intro v1 t1 d1 z1))
  refine (eight_any (u64 fr) v1).mono ?_
  rintro e v2 ⟨E2, k2, rfl, o2, d2⟩
  have i2 := o2.ints (digits_length 8 (u64 fr))
  have t2 := t1.below d2
  obtain ⟨ps, hps⟩ : ∃ g, y4.heap.size = g := ⟨_, rfl⟩
  have s12 : y4.heap.size ≤ v2.heap.size := Nat.le_trans d1.size d2.size
  have d12 := d1.trans (d2.mono d1.size)
  rw [hps] at t2 ⊢
  have HPS := Lib.hid hps
  clear hps t1 d1 d2 z1 o2
  go_wp2_with (at_builtin; refine wpList_append_grow (w := v2) rfl _ _ 34 rfl Tryd.underlying34 info_u8 ps 6 [115, 101, 110, 100, 101, 114] rfl _ t2 v2.heap.size E2 8 k2 (digits (u64 fr) 8) rfl i2 (by omega) (by omega) ?_; intro A3 n3 c3 v3 o3 d3 h3a h3b h3n)
  have d13 := d12.trans (d3.mono s12)
  refine (eight_any sa v3).mono ?_
  rintro e v4 ⟨E4, k4, rfl, o4, d4⟩
  have i4 := o4.ints (digits_length 8 sa)
  have o34 := o3.below d4
  have d14 := d13.trans (d4.mono d13.size)
  have s24 : v2.heap.size ≤ v4.heap.size := Nat.le_trans d3.size d4.size
  clear t2 i2 o3 o4 d12 d13 h3a h3b
  go_wp2_with (at_builtin; refine wpList_append_ints v4 rfl _ _ 34 rfl v2.heap.size 5 .u8 1 Tryd.underlying34 info_u8 (.slice A3 n3 c3) ([115, 101, 110, 100, 101, 114] ++ digits (u64 fr) 8) rfl o34 v4.heap.size E4 8 k4 (digits sa 8) rfl i4 (by simp [digits_length]) (by omega) s24 ?_; intro vx v5 oS gS tS; obtain ⟨AS, cS, rfl, hSa, hSb, iS⟩ := oS.form; obtain ⟨nS, hnS⟩ : ∃ n, (([115, 101, 110, 100, 101, 114] ++ digits (u64 fr) 8) ++ digits sa 8).length = n := ⟨_, rfl⟩; rw [hnS] at iS hSa ⊢; have HNS := Lib.hid hnS; clear hnS oS)
  have d15 : Below y4.heap.size y4 v5 := d14.grown gS d14.size (fun r e => Nat.le_trans s12 (o34.2.lt r e).1)
  have bv := by4.trans (d15.mono by4.size)
  have bv0 := bu5.trans (bv.mono bu5.size)
  have hL : Laid v5 := hL0.below bv0
  have mv := m5.below bv m5.lt
  have jv := j5.below bv j5.lt
  have qv := (bv.block gp hgp5).trans q5
  have hgpv := (Array.getElem?_eq_some_iff.1 qv).1
  have iP := (iP.below d15).more d15.size
  have hnnP : nP ≤ 1000 := by have := HNP.out; omega
  have hnnS : nS ≤ 1000 := by have := HNS.out; simp [digits_length] at this; omega
  have HPP := Lib.hid (show hkey [] jb ([112, 108, 97, 99, 101] ++ eights [u64 ph, u64 rr, u64 ad]) = kPlace jb ph rr ad from rfl)
  have HSS := Lib.hid (show hkey [] jb (([115, 101, 110, 100, 101, 114] ++ digits (u64 fr) 8) ++ digits sa 8) = kSender jb fr sa by unfold kSender; simp [eights])
  have jI : ∀ W : World, Below v5.heap.size v5 W → Ints W .u8 W.heap.size (some ⟨gj, 0, none⟩) 32 jb := fun W h => by
    have q := (jv.below h jv.lt).ints (n := 32) (by rw [HJ.out]; omega)
    rwa [List.take_of_length_le (by rw [HJ.out]; omega)] at q
  have pI : ∀ W : World, Below v5.heap.size v5 W → Ints W .u8 W.heap.size AP nP ([112, 108, 97, 99, 101] ++ eights [u64 ph, u64 rr, u64 ad]) := fun W h => (iP.below h).more h.size
  have sI : ∀ W : World, Below v5.heap.size v5 W → Ints W .u8 W.heap.size AS nS (([115, 101, 110, 100, 101, 114] ++ digits (u64 fr) 8) ++ digits sa 8) := fun W h => (iS.below h).more h.size
  have job_b : ∀ W : World, Laid W → Calls Tryd.prog 7 #[.agg (arr .u8 ms), .int .u64 id] W fun e W' => e = .returned (.agg (arr .u8 jb)) ∧ Below W.heap.size W W' := fun W h => by rw [← HJB.out]; exact job_any ms HM.out HMW.out id hid W h.start h.words
  have rkey_b : ∀ (A : Option Addr) (n c : Nat) (zs : List Int) (W : World), n ≤ 1000 → Ints W .u8 W.heap.size (some ⟨gj, 0, none⟩) 32 jb → Ints W .u8 W.heap.size A n zs → ∀ res, hkey [] jb zs = res → Calls Tryd.prog 23 #[.slice none 0 0, .slice (some ⟨gj, 0, none⟩) 32 32, .slice A n c] W fun e W' => e = .returned (.agg (arr .u8 res)) ∧ Below W.heap.size W W' := fun A n c zs W hn hk hi res hr => by
    rw [← hr]
    exact rkey_any W.heap.size W.heap.size W.heap.size none (some ⟨gj, 0, none⟩) A 0 0 32 32 n c [] jb zs W (Ints.nil _ _ _ _) (Nat.le_refl _) (by omega) hk (Nat.le_refl _) (by omega) hi (Nat.le_refl _) (by omega)
  clear gS tS o34 i4 d14 d15 d4 s12 s24 iP iS m5 j5 q5 hgp5 bu5 bv by4 d3 h3n hSa hSb W0 W3
  refine wp_region_held (S := fun W => Below v5.heap.size v5 W) (by kernel_rfl) ?_
  change wpAnyH _ _ _ _ _ _ _ _ v5.drew
  have c0_0 := (Below.refl v5.heap.size v5).drew
  refine Held.one 0 (by kernel_rfl) ?_
  refine Held.op_call 0 (some 48) 8 #[] rfl rfl rfl rfl (enters_of Tryd.func8 (by kernel_rfl) rfl) (by simp)
    (awake8_any _ (hL.below c0_0)) ?_
  rintro e w1 ⟨rfl, b1⟩
  have c0_1 := c0_0.trans (b1.mono c0_0.size)
  refine ⟨_, rfl, c0_1, ?_⟩
  simp only [Act.put, List.setIfInBounds_toArray, List.set_cons_zero, List.set_cons_succ]
  refine Held.take (v := .bool true) 1 (some 49) rfl rfl (by kernel_rfl) (by kernel_rfl) (by kernel_rfl) (fun _ _ _ h => h) rfl (Held.y_move rfl rfl) c0_1 ?_
  simp only [Act.put, List.setIfInBounds_toArray, List.set_cons_zero, List.set_cons_succ]
  refine Held.take (v := .agg (arr .u8 ms)) 2 (some 50) rfl rfl (by kernel_rfl) (by kernel_rfl) (by kernel_rfl) (fun _ _ _ h => h) rfl (Held.y_load_Row (zs := ms) rfl rfl Tryd.underlying22 info_32 HM.out (fun W hW => mv.below hW mv.lt)) c0_1 ?_
  simp only [Act.put, List.setIfInBounds_toArray, List.set_cons_zero, List.set_cons_succ]
  refine Held.take (v := .int .u64 id) 3 (some 51) rfl rfl (by kernel_rfl) (by kernel_rfl) (by kernel_rfl) (fun _ _ _ h => h) rfl (Held.y_move rfl rfl) c0_1 ?_
  simp only [Act.put, List.setIfInBounds_toArray, List.set_cons_zero, List.set_cons_succ]
  refine Held.take (v := .agg (arr .u8 jb)) 5 (some 53) rfl rfl (by kernel_rfl) (by kernel_rfl) (by kernel_rfl) (fun _ _ _ h => h) rfl (Held.y_load_Row (zs := jb) rfl rfl Tryd.underlying22 info_32 HJ.out (fun W hW => jv.below hW jv.lt)) c0_1 ?_
  simp only [Act.put, List.setIfInBounds_toArray, List.set_cons_zero, List.set_cons_succ]
  refine Held.one 4 (by kernel_rfl) ?_
  refine Held.op_call 4 (some 52) 7 #[.agg (arr .u8 ms), .int .u64 id] rfl rfl rfl rfl (enters_of Tryd.func7 (by kernel_rfl) rfl) (by simp [Act.eval])
    (job_b _ (hL.below c0_1)) ?_
  rintro e w2 ⟨rfl, b2⟩
  have c0_2 := c0_1.trans (b2.mono c0_1.size)
  refine ⟨_, rfl, c0_2, ?_⟩
  simp only [Act.put, List.setIfInBounds_toArray, List.set_cons_zero, List.set_cons_succ]
  refine Held.take (v := .bool true) 6 (some 54) rfl rfl (by kernel_rfl) (by kernel_rfl) (by kernel_rfl) (fun _ _ _ h => h) rfl (Held.y_eql rfl rfl rfl (by kernel_rfl) Tryd.underlying22 Tryd.underlying5 (by kernel_rfl) (HJ.out)) c0_2 ?_
  simp only [Act.put, List.setIfInBounds_toArray, List.set_cons_zero, List.set_cons_succ]
  refine Held.take (v := .bool true) 7 (some 55) rfl rfl (by kernel_rfl) (by kernel_rfl) (by kernel_rfl) (fun _ _ _ h => h) rfl (Held.y_pick rfl rfl rfl) c0_2 ?_
  simp only [Act.put, List.setIfInBounds_toArray, List.set_cons_zero, List.set_cons_succ]
  refine Held.take (v := .bool true) 8 (some 56) rfl rfl (by kernel_rfl) (by kernel_rfl) (by kernel_rfl) (fun _ _ _ h => h) rfl (Held.y_move rfl rfl) c0_2 ?_
  simp only [Act.put, List.setIfInBounds_toArray, List.set_cons_zero, List.set_cons_succ]
  refine Held.take (v := .agg (arr .u8 jb)) 9 (some 57) rfl rfl (by kernel_rfl) (by kernel_rfl) (by kernel_rfl) (fun _ _ _ h => h) rfl (Held.y_load_Row (zs := jb) rfl rfl Tryd.underlying22 info_32 HJ.out (fun W hW => jv.below hW jv.lt)) c0_2 ?_
  simp only [Act.put, List.setIfInBounds_toArray, List.set_cons_zero, List.set_cons_succ]
  refine Held.take (v := .agg #[.int .i64 ph, .int .i64 rr, .int .i64 ad, .int .u64 t, .int .i64 ix]) 10 (some 58) rfl rfl (by kernel_rfl) (by kernel_rfl) (by kernel_rfl) (fun _ _ _ h => h) rfl (y_load_place rfl rfl rfl (fun W hW => (hW.block gp hgpv).trans qv)) c0_2 ?_
  simp only [Act.put, List.setIfInBounds_toArray, List.set_cons_zero, List.set_cons_succ]
  refine Held.take (v := .slice (some ⟨gj, 0, none⟩) 32 32) 12 (some 60) rfl rfl (by kernel_rfl) (by kernel_rfl) (by kernel_rfl) (fun _ _ _ h => h) rfl (Held.y_slice rfl (fun X => run_slice_arr_all (P := Tryd.prog) 22 5 32 gj X Tryd.underlying22 (by kernel_rfl) (by omega))) c0_2 ?_
  simp only [Act.put, List.setIfInBounds_toArray, List.set_cons_zero, List.set_cons_succ]
  refine Held.take (v := .slice AP nP cP) 13 (some 61) rfl rfl (by kernel_rfl) (by kernel_rfl) (by kernel_rfl) (fun _ _ _ h => h) rfl (Held.y_move rfl rfl) c0_2 ?_
  simp only [Act.put, List.setIfInBounds_toArray, List.set_cons_zero, List.set_cons_succ]
  refine Held.one 11 (by kernel_rfl) ?_
  refine Held.op_call 11 (some 59) 10 #[.agg (arr .u8 jb), .agg #[.int .i64 ph, .int .i64 rr, .int .i64 ad, .int .u64 t, .int .i64 ix]] rfl rfl rfl rfl (enters_of Tryd.func10 (by kernel_rfl) rfl) (by simp [Act.eval])
    (place_any jb HJ.out HJW.out ph rr ad t ix _ (hL.below c0_2).start (hL.below c0_2).words) ?_
  rintro e w3 ⟨rfl, b3⟩
  have c0_3 := c0_2.trans (b3.mono c0_2.size)
  refine ⟨_, rfl, c0_3, ?_⟩
  simp only [Act.put, List.setIfInBounds_toArray, List.set_cons_zero, List.set_cons_succ]
  refine Held.one 14 (by kernel_rfl) ?_
  refine Held.op_call 14 (some 62) 23 #[.slice none 0 0, .slice (some ⟨gj, 0, none⟩) 32 32, .slice AP nP cP] rfl rfl rfl rfl (enters_of Tryd.func23 (by kernel_rfl) rfl) (by simp [Act.eval])
    (rkey_b AP nP cP _ _ (hnnP) (jI _ c0_3) (pI _ c0_3) _ HPP.out) ?_
  rintro e w4 ⟨rfl, b4⟩
  have c0_4 := c0_3.trans (b4.mono c0_3.size)
  refine ⟨_, rfl, c0_4, ?_⟩
  simp only [Act.put, List.setIfInBounds_toArray, List.set_cons_zero, List.set_cons_succ]
  refine Held.take (v := .bool true) 15 (some 63) rfl rfl (by kernel_rfl) (by kernel_rfl) (by kernel_rfl) (fun _ _ _ h => h) rfl (Held.y_eql rfl rfl rfl (by kernel_rfl) Tryd.underlying22 Tryd.underlying5 (by kernel_rfl) (hkey_length _ _ _)) c0_4 ?_
  simp only [Act.put, List.setIfInBounds_toArray, List.set_cons_zero, List.set_cons_succ]
  refine Held.take (v := .bool true) 16 (some 64) rfl rfl (by kernel_rfl) (by kernel_rfl) (by kernel_rfl) (fun _ _ _ h => h) rfl (Held.y_pick rfl rfl rfl) c0_4 ?_
  simp only [Act.put, List.setIfInBounds_toArray, List.set_cons_zero, List.set_cons_succ]
  refine Held.take (v := .bool true) 17 (some 65) rfl rfl (by kernel_rfl) (by kernel_rfl) (by kernel_rfl) (fun _ _ _ h => h) rfl (Held.y_move rfl rfl) c0_4 ?_
  simp only [Act.put, List.setIfInBounds_toArray, List.set_cons_zero, List.set_cons_succ]
  refine Held.take (v := .agg (arr .u8 jb)) 18 (some 66) rfl rfl (by kernel_rfl) (by kernel_rfl) (by kernel_rfl) (fun _ _ _ h => h) rfl (Held.y_load_Row (zs := jb) rfl rfl Tryd.underlying22 info_32 HJ.out (fun W hW => jv.below hW jv.lt)) c0_4 ?_
  simp only [Act.put, List.setIfInBounds_toArray, List.set_cons_zero, List.set_cons_succ]
  refine Held.take (v := .int .i64 fr) 19 (some 67) rfl rfl (by kernel_rfl) (by kernel_rfl) (by kernel_rfl) (fun _ _ _ h => h) rfl (Held.y_move rfl rfl) c0_4 ?_
  simp only [Act.put, List.setIfInBounds_toArray, List.set_cons_zero, List.set_cons_succ]
  refine Held.take (v := .int .u64 sa) 20 (some 68) rfl rfl (by kernel_rfl) (by kernel_rfl) (by kernel_rfl) (fun _ _ _ h => h) rfl (Held.y_move rfl rfl) c0_4 ?_
  simp only [Act.put, List.setIfInBounds_toArray, List.set_cons_zero, List.set_cons_succ]
  refine Held.take (v := .slice (some ⟨gj, 0, none⟩) 32 32) 22 (some 70) rfl rfl (by kernel_rfl) (by kernel_rfl) (by kernel_rfl) (fun _ _ _ h => h) rfl (Held.y_slice rfl (fun X => run_slice_arr_all (P := Tryd.prog) 22 5 32 gj X Tryd.underlying22 (by kernel_rfl) (by omega))) c0_4 ?_
  simp only [Act.put, List.setIfInBounds_toArray, List.set_cons_zero, List.set_cons_succ]
  refine Held.take (v := .slice AS nS cS) 23 (some 71) rfl rfl (by kernel_rfl) (by kernel_rfl) (by kernel_rfl) (fun _ _ _ h => h) rfl (Held.y_move rfl rfl) c0_4 ?_
  simp only [Act.put, List.setIfInBounds_toArray, List.set_cons_zero, List.set_cons_succ]
  refine Held.one 21 (by kernel_rfl) ?_
  refine Held.op_call 21 (some 69) 12 #[.agg (arr .u8 jb), .int .i64 fr, .int .u64 sa] rfl rfl rfl rfl (enters_of Tryd.func12 (by kernel_rfl) rfl) (by simp [Act.eval])
    (sender_any jb HJ.out HJW.out fr sa hsa _ (hL.below c0_4).start (hL.below c0_4).words) ?_
  rintro e w5 ⟨rfl, b5⟩
  have c0_5 := c0_4.trans (b5.mono c0_4.size)
  refine ⟨_, rfl, c0_5, ?_⟩
  simp only [Act.put, List.setIfInBounds_toArray, List.set_cons_zero, List.set_cons_succ]
  refine Held.one 24 (by kernel_rfl) ?_
  refine Held.op_call 24 (some 72) 23 #[.slice none 0 0, .slice (some ⟨gj, 0, none⟩) 32 32, .slice AS nS cS] rfl rfl rfl rfl (enters_of Tryd.func23 (by kernel_rfl) rfl) (by simp [Act.eval])
    (rkey_b AS nS cS _ _ (hnnS) (jI _ c0_5) (sI _ c0_5) _ HSS.out) ?_
  rintro e w6 ⟨rfl, b6⟩
  have c0_6 := c0_5.trans (b6.mono c0_5.size)
  refine ⟨_, rfl, c0_6, ?_⟩
  simp only [Act.put, List.setIfInBounds_toArray, List.set_cons_zero, List.set_cons_succ]
  refine Held.take (v := .bool true) 25 (some 73) rfl rfl (by kernel_rfl) (by kernel_rfl) (by kernel_rfl) (fun _ _ _ h => h) rfl (Held.y_eql rfl rfl rfl (by kernel_rfl) Tryd.underlying22 Tryd.underlying5 (by kernel_rfl) (hkey_length _ _ _)) c0_6 ?_
  simp only [Act.put, List.setIfInBounds_toArray, List.set_cons_zero, List.set_cons_succ]
  refine Held.take (v := .bool true) 26 (some 74) rfl rfl (by kernel_rfl) (by kernel_rfl) (by kernel_rfl) (fun _ _ _ h => h) rfl (Held.y_pick rfl rfl rfl) c0_6 ?_
  simp only [Act.put, List.setIfInBounds_toArray, List.set_cons_zero, List.set_cons_succ]
  refine Held.take (v := .bool true) 27 (some 75) rfl rfl (by kernel_rfl) (by kernel_rfl) (by kernel_rfl) (fun _ _ _ h => h) rfl (Held.y_move rfl rfl) c0_6 ?_
  simp only [Act.put, List.setIfInBounds_toArray, List.set_cons_zero, List.set_cons_succ]
  refine Held.take (v := .agg (arr .u8 jb)) 28 (some 76) rfl rfl (by kernel_rfl) (by kernel_rfl) (by kernel_rfl) (fun _ _ _ h => h) rfl (Held.y_load_Row (zs := jb) rfl rfl Tryd.underlying22 info_32 HJ.out (fun W hW => jv.below hW jv.lt)) c0_6 ?_
  simp only [Act.put, List.setIfInBounds_toArray, List.set_cons_zero, List.set_cons_succ]
  refine Held.take (v := .slice (some ⟨gj, 0, none⟩) 32 32) 30 (some 78) rfl rfl (by kernel_rfl) (by kernel_rfl) (by kernel_rfl) (fun _ _ _ h => h) rfl (Held.y_slice rfl (fun X => run_slice_arr_all (P := Tryd.prog) 22 5 32 gj X Tryd.underlying22 (by kernel_rfl) (by omega))) c0_6 ?_
  simp only [Act.put, List.setIfInBounds_toArray, List.set_cons_zero, List.set_cons_succ]
  refine Held.two 29 31 (by kernel_rfl) ?_ ?_
  · refine Held.op_call 29 (some 77) 14 #[.agg (arr .u8 jb)] rfl rfl rfl rfl (enters_of Tryd.func14 (by kernel_rfl) rfl) (by simp [Act.eval])
      (journal_any jb HJ.out HJW.out _ (hL.below c0_6).start (hL.below c0_6).words) ?_
    rintro e w7 ⟨rfl, b7⟩
    have c0_7 := c0_6.trans (b7.mono c0_6.size)
    refine ⟨_, rfl, c0_7, ?_⟩
    simp only [Act.put, List.setIfInBounds_toArray, List.set_cons_zero, List.set_cons_succ]
    refine Held.one 31 (by kernel_rfl) ?_
    refine Held.op_build_Row 31 (some 79) 34 5 7 .u8 1 [106, 111, 117, 114, 110, 97, 108] rfl rfl rfl rfl Tryd.underlying34 info_u8 (by simp [Act.eval]) rfl (by omega) (by omega) (by decide) ?_
    intro pj w8 rT bb hp
    have b8 : Below w7.heap.size w7 w8 := ⟨bb.os, bb.tape, bb.output, bb.size, bb.block⟩
    have hpl : v5.heap.size ≤ pj := Nat.le_trans c0_7.size hp.out
    have c0_8 := c0_7.trans (b8.mono c0_7.size)
    clear bb hp
    refine ⟨c0_8, ?_⟩
    simp only [Act.put, List.setIfInBounds_toArray, List.set_cons_zero, List.set_cons_succ]
    refine Held.one 32 (by kernel_rfl) ?_
    refine op_mark 32 (some 80) 34 pj 7 [106, 111, 117, 114, 110, 97, 108] rfl rfl rfl rfl rfl Tryd.underlying34 Tryd.underlying5 rT ?_
    intro w9 rM gM
    have c0_9 := c0_8.grown gM c0_8.size (fun r e => by cases e; exact hpl)
    clear rT gM
    refine ⟨c0_9, ?_⟩
    simp only [Act.put, List.setIfInBounds_toArray, List.set_cons_zero, List.set_cons_succ]
    refine Held.one 33 (by kernel_rfl) ?_
    refine Held.op_call 33 (some 81) 23 #[.slice none 0 0, .slice (some ⟨gj, 0, none⟩) 32 32, .slice (some ⟨pj, 0, none⟩) 7 7] rfl rfl rfl rfl (enters_of Tryd.func23 (by kernel_rfl) rfl) (by simp [Act.eval])
      (rkey_b (some ⟨pj, 0, none⟩) 7 7 [106, 111, 117, 114, 110, 97, 108] _ (by omega) (jI _ c0_9) (text_ints rM) _ rfl) ?_
    rintro e w10 ⟨rfl, b10⟩
    have c0_10 := c0_9.trans (b10.mono c0_9.size)
    refine ⟨_, rfl, c0_10, ?_⟩
    simp only [Act.put, List.setIfInBounds_toArray, List.set_cons_zero, List.set_cons_succ]
    refine Held.take (v := .bool true) 34 (some 82) rfl rfl (by kernel_rfl) (by kernel_rfl) (by kernel_rfl) (fun _ _ _ h => h) rfl (Held.y_eql rfl rfl rfl (by kernel_rfl) Tryd.underlying22 Tryd.underlying5 (by kernel_rfl) (hkey_length _ _ _)) c0_10 ?_
    simp only [Act.put, List.setIfInBounds_toArray, List.set_cons_zero, List.set_cons_succ]
    refine Held.take (v := .bool true) 35 (some 83) rfl rfl (by kernel_rfl) (by kernel_rfl) (by kernel_rfl) (fun _ _ _ h => h) rfl (Held.y_pick rfl rfl rfl) c0_10 ?_
    simp only [Act.put, List.setIfInBounds_toArray, List.set_cons_zero, List.set_cons_succ]
    refine Held.take (v := .bool true) 36 (some 10) rfl rfl (by kernel_rfl) (by kernel_rfl) (by kernel_rfl) (fun _ _ _ h => h) rfl (Held.y_assign rfl rfl) c0_10 ?_
    simp only [Act.put, List.setIfInBounds_toArray, List.set_cons_zero, List.set_cons_succ]
    refine wpAnyH_done (by kernel_rfl) ?_ _
    have dz := bv0.trans (c0_10.mono bv0.size)
    go_wp2_with fail
    go_ret
    exact ⟨rfl, dz⟩
  · refine Held.op_build_Row 31 (some 79) 34 5 7 .u8 1 [106, 111, 117, 114, 110, 97, 108] rfl rfl rfl rfl Tryd.underlying34 info_u8 (by simp [Act.eval]) rfl (by omega) (by omega) (by decide) ?_
    intro pj w7 rT bb hp
    have b7 : Below w6.heap.size w6 w7 := ⟨bb.os, bb.tape, bb.output, bb.size, bb.block⟩
    have hpl : v5.heap.size ≤ pj := Nat.le_trans c0_6.size hp.out
    have c0_7 := c0_6.trans (b7.mono c0_6.size)
    clear bb hp
    refine ⟨c0_7, ?_⟩
    simp only [Act.put, List.setIfInBounds_toArray, List.set_cons_zero, List.set_cons_succ]
    refine Held.two 29 32 (by kernel_rfl) ?_ ?_
    · refine Held.op_call 29 (some 77) 14 #[.agg (arr .u8 jb)] rfl rfl rfl rfl (enters_of Tryd.func14 (by kernel_rfl) rfl) (by simp [Act.eval])
        (journal_any jb HJ.out HJW.out _ (hL.below c0_7).start (hL.below c0_7).words) ?_
      rintro e w8 ⟨rfl, b8⟩
      have c0_8 := c0_7.trans (b8.mono c0_7.size)
      have rT := rT.below b8 rT.lt
      refine ⟨_, rfl, c0_8, ?_⟩
      simp only [Act.put, List.setIfInBounds_toArray, List.set_cons_zero, List.set_cons_succ]
      refine Held.one 32 (by kernel_rfl) ?_
      refine op_mark 32 (some 80) 34 pj 7 [106, 111, 117, 114, 110, 97, 108] rfl rfl rfl rfl rfl Tryd.underlying34 Tryd.underlying5 rT ?_
      intro w9 rM gM
      have c0_9 := c0_8.grown gM c0_8.size (fun r e => by cases e; exact hpl)
      clear rT gM
      refine ⟨c0_9, ?_⟩
      simp only [Act.put, List.setIfInBounds_toArray, List.set_cons_zero, List.set_cons_succ]
      refine Held.one 33 (by kernel_rfl) ?_
      refine Held.op_call 33 (some 81) 23 #[.slice none 0 0, .slice (some ⟨gj, 0, none⟩) 32 32, .slice (some ⟨pj, 0, none⟩) 7 7] rfl rfl rfl rfl (enters_of Tryd.func23 (by kernel_rfl) rfl) (by simp [Act.eval])
        (rkey_b (some ⟨pj, 0, none⟩) 7 7 [106, 111, 117, 114, 110, 97, 108] _ (by omega) (jI _ c0_9) (text_ints rM) _ rfl) ?_
      rintro e w10 ⟨rfl, b10⟩
      have c0_10 := c0_9.trans (b10.mono c0_9.size)
      refine ⟨_, rfl, c0_10, ?_⟩
      simp only [Act.put, List.setIfInBounds_toArray, List.set_cons_zero, List.set_cons_succ]
      refine Held.take (v := .bool true) 34 (some 82) rfl rfl (by kernel_rfl) (by kernel_rfl) (by kernel_rfl) (fun _ _ _ h => h) rfl (Held.y_eql rfl rfl rfl (by kernel_rfl) Tryd.underlying22 Tryd.underlying5 (by kernel_rfl) (hkey_length _ _ _)) c0_10 ?_
      simp only [Act.put, List.setIfInBounds_toArray, List.set_cons_zero, List.set_cons_succ]
      refine Held.take (v := .bool true) 35 (some 83) rfl rfl (by kernel_rfl) (by kernel_rfl) (by kernel_rfl) (fun _ _ _ h => h) rfl (Held.y_pick rfl rfl rfl) c0_10 ?_
      simp only [Act.put, List.setIfInBounds_toArray, List.set_cons_zero, List.set_cons_succ]
      refine Held.take (v := .bool true) 36 (some 10) rfl rfl (by kernel_rfl) (by kernel_rfl) (by kernel_rfl) (fun _ _ _ h => h) rfl (Held.y_assign rfl rfl) c0_10 ?_
      simp only [Act.put, List.setIfInBounds_toArray, List.set_cons_zero, List.set_cons_succ]
      refine wpAnyH_done (by kernel_rfl) ?_ _
      have dz := bv0.trans (c0_10.mono bv0.size)
      go_wp2_with fail
      go_ret
      exact ⟨rfl, dz⟩
    · refine op_mark 32 (some 80) 34 pj 7 [106, 111, 117, 114, 110, 97, 108] rfl rfl rfl rfl rfl Tryd.underlying34 Tryd.underlying5 rT ?_
      intro w8 rM gM
      have c0_8 := c0_7.grown gM c0_7.size (fun r e => by cases e; exact hpl)
      clear rT gM
      refine ⟨c0_8, ?_⟩
      simp only [Act.put, List.setIfInBounds_toArray, List.set_cons_zero, List.set_cons_succ]
      refine Held.one 29 (by kernel_rfl) ?_
      refine Held.op_call 29 (some 77) 14 #[.agg (arr .u8 jb)] rfl rfl rfl rfl (enters_of Tryd.func14 (by kernel_rfl) rfl) (by simp [Act.eval])
        (journal_any jb HJ.out HJW.out _ (hL.below c0_8).start (hL.below c0_8).words) ?_
      rintro e w9 ⟨rfl, b9⟩
      have c0_9 := c0_8.trans (b9.mono c0_8.size)
      have rM := rM.below b9
      refine ⟨_, rfl, c0_9, ?_⟩
      simp only [Act.put, List.setIfInBounds_toArray, List.set_cons_zero, List.set_cons_succ]
      refine Held.one 33 (by kernel_rfl) ?_
      refine Held.op_call 33 (some 81) 23 #[.slice none 0 0, .slice (some ⟨gj, 0, none⟩) 32 32, .slice (some ⟨pj, 0, none⟩) 7 7] rfl rfl rfl rfl (enters_of Tryd.func23 (by kernel_rfl) rfl) (by simp [Act.eval])
        (rkey_b (some ⟨pj, 0, none⟩) 7 7 [106, 111, 117, 114, 110, 97, 108] _ (by omega) (jI _ c0_9) (text_ints rM) _ rfl) ?_
      rintro e w10 ⟨rfl, b10⟩
      have c0_10 := c0_9.trans (b10.mono c0_9.size)
      refine ⟨_, rfl, c0_10, ?_⟩
      simp only [Act.put, List.setIfInBounds_toArray, List.set_cons_zero, List.set_cons_succ]
      refine Held.take (v := .bool true) 34 (some 82) rfl rfl (by kernel_rfl) (by kernel_rfl) (by kernel_rfl) (fun _ _ _ h => h) rfl (Held.y_eql rfl rfl rfl (by kernel_rfl) Tryd.underlying22 Tryd.underlying5 (by kernel_rfl) (hkey_length _ _ _)) c0_10 ?_
      simp only [Act.put, List.setIfInBounds_toArray, List.set_cons_zero, List.set_cons_succ]
      refine Held.take (v := .bool true) 35 (some 83) rfl rfl (by kernel_rfl) (by kernel_rfl) (by kernel_rfl) (fun _ _ _ h => h) rfl (Held.y_pick rfl rfl rfl) c0_10 ?_
      simp only [Act.put, List.setIfInBounds_toArray, List.set_cons_zero, List.set_cons_succ]
      refine Held.take (v := .bool true) 36 (some 10) rfl rfl (by kernel_rfl) (by kernel_rfl) (by kernel_rfl) (fun _ _ _ h => h) rfl (Held.y_assign rfl rfl) c0_10 ?_
      simp only [Act.put, List.setIfInBounds_toArray, List.set_cons_zero, List.set_cons_succ]
      refine wpAnyH_done (by kernel_rfl) ?_ _
      have dz := bv0.trans (c0_10.mono bv0.size)
      go_wp2_with fail
      go_ret
      exact ⟨rfl, dz⟩

theorem walk (z0 : List Int) (a1 : Int) (ph2 rr2 ad2 at2 ix2 : Int) (a3 : Int) (a4 : Int) (w : World) (zl0 : z0.length = 32) (zw0 : ∀ z ∈ z0, (Lit.int .u8 z).wf = true) (w1 : (Lit.int .u64 a1).wf = true) (wp2 : (Lit.int .i64 ph2).wf = true) (wr2 : (Lit.int .i64 rr2).wf = true) (wa2 : (Lit.int .i64 ad2).wf = true) (wt2 : (Lit.int .u64 at2).wf = true) (wi2 : (Lit.int .i64 ix2).wf = true) (w3 : (Lit.int .i64 a3).wf = true) (w4 : (Lit.int .u64 a4).wf = true) (hL : laidMetH Tryd.prog laidList w) :
    Calls Tryd.prog 5 #[.agg (Mem.arr .u8 z0), .int .u64 a1, .agg #[.int .i64 ph2, .int .i64 rr2, .int .i64 ad2, .int .u64 at2, .int .i64 ix2], .int .i64 a3, .int .u64 a4] w fun e w' => e = .returned (.bool true) ∧ Below w.heap.size w w' := by
  exact start z0 a1 ph2 rr2 ad2 at2 ix2 a3 a4 w zl0 zw0 w1 w4 (laid_of hL)

set_option maxRecDepth 100000 in
theorem door_met (os : Os) (args : Array Value) : laidMetH Tryd.prog laidList ((World.doorLaid Tryd.prog 400 os).forCall (fun _ _ => 0) ⟨#[], args, []⟩).memory :=
  laidMetH_of_parts3 (fuel := 8) (laidMet_of_run' 8 (by kernel_rfl) (by kernel_rfl)) (by kernel_rfl) (by kernel_rfl)

set_option maxRecDepth 100000 in
theorem lifted (os : Os) (started : os.Started) (H : Type) (enc : TypeId × Value → H) :
    ReturnsInHanded {} Tryd.checked os 5 .any (fun w args => (Rows.keysMadeSpec.pre enc Tryd.prog Tryd.f5 [] false w args ∧ laidMetH Tryd.prog laidList w) ∧ sizedMet enc Tryd.prog Tryd.f5 (OpenSpec.ofChange Rows.keysMadeSpec) false w args)
      (Rows.keysMadeSpec.post enc Tryd.prog Tryd.f5 false true false false) := by
  refine returnsInHanded_of_change_and (C := Tryd.checked) (X := fun w _ => laidMetH Tryd.prog laidList w) (fun _ _ _ hh h => h.of_heap hh) own started (by kernel_rfl) Tryd.func5
    (ChangeSpec.witness_shaped (enc := enc) (C := Tryd.checked) (os := os) (X := fun w _ => laidMetH Tryd.prog laidList w) false (World.doorLaid Tryd.prog 400 os) #[.agg (Array.replicate 32 (.int .u8 0)), .int .u64 0, .agg #[.int .i64 0, .int .i64 0, .int .i64 0, .int .u64 0, .int .i64 0], .int .i64 0, .int .u64 0] 8 rfl (World.shaped_of_RefB (by kernel_rfl) (by kernel_rfl)) (by kernel_rfl) (by kernel_rfl) (by kernel_rfl) (door_met os _)) ?_
  intro W base args ds gs before hval0 hW _ _ hL _
  have hval : ∀ (j : Nat) t v, Tryd.f5.params[j]? = some t → args[j]? = some v → Value.okWide Tryd.prog W .any base t v := hval0
  have hW' := hW
  obtain ⟨p, q, hA0, hV, rfl, hfz, hnd⟩ := hW
  have hA : DataW.TrodAll enc Tryd.prog W 0 (fun _ => true) true Tryd.f5.params.toList args.toList ds p := hA0
  rw [Tryd.params5] at hA hval
  obtain ⟨v0, vs0, d0, ds0, p0, q0, hargs, rfl, rfl, h0, r0⟩ := trodAll_cons hA
  obtain ⟨v1, vs1, d1, ds1, p1, q1, rfl, rfl, rfl, h1, r1⟩ := trodAll_cons r0
  obtain ⟨v2, vs2, d2, ds2, p2, q2, rfl, rfl, rfl, h2, r2⟩ := trodAll_cons r1
  obtain ⟨v3, vs3, d3, ds3, p3, q3, rfl, rfl, rfl, h3, r3⟩ := trodAll_cons r2
  obtain ⟨v4, vs4, d4, ds4, p4, q4, rfl, rfl, rfl, h4, r4⟩ := trodAll_cons r3
  obtain ⟨rfl, rfl, rfl⟩ := trodAll_nil r4
  obtain rfl : args = #[v0, v1, v2, v3, v4] := by cases args; simp_all
  obtain ⟨rfl, rfl⟩ := trodVars_none hV
  have k0 := h0
  have lt0 : ∀ x ∈ p0, x.block < W.heap.size := by obtain ⟨m, hm⟩ := k0; exact DataW.trod_lt m _ _ _ hm
  obtain ⟨z0, rfl, zl0, zw0⟩ := Mem.open_arr Tryd.underlying22 Tryd.underlying5 (by kernel_rfl) (by kernel_rfl) (hval 0 22 v0 rfl rfl) h0
  obtain ⟨a1, rfl, rfl, rfl, w1⟩ := open_int Tryd.underlying23 (hval 1 23 v1 rfl rfl) h1
  have k2 := h2
  have lt2 : ∀ x ∈ p2, x.block < W.heap.size := by obtain ⟨m, hm⟩ := k2; exact DataW.trod_lt m _ _ _ hm
  obtain ⟨ph2, rr2, ad2, at2, ix2, rfl, wp2, wr2, wa2, wt2, wi2⟩ := Ky.open_place (hval 2 25 v2 rfl rfl) h2
  obtain ⟨a3, rfl, rfl, rfl, w3⟩ := open_int Tryd.underlying3 (hval 3 3 v3 rfl rfl) h3
  obtain ⟨a4, rfl, rfl, rfl, w4⟩ := open_int Tryd.underlying23 (hval 4 23 v4 rfl rfl) h4
  clear hA0 hval0
  refine (walk z0 a1 ph2 rr2 ad2 at2 ix2 a3 a4 W zl0 zw0 w1 wp2 wr2 wa2 wt2 wi2 w3 w4 hL).mono fun e W' ⟨he, bel⟩ => ?_
  subst he
  exact ⟨_, rfl, _, _, _, [], _, [], hW', trodAll_mk1 (shut_bool Tryd.underlying4 _), (trodAll_cons_mk (Below.trod laidOut (by kernel_rfl) (of_decide_eq_true (by kernel_rfl)) k0 bel lt0) (trodAll_cons_mk (shut_int Tryd.underlying23 w1) (trodAll_cons_mk (Below.trod laidOut (by kernel_rfl) (of_decide_eq_true (by kernel_rfl)) k2 bel lt2) (trodAll_cons_mk (shut_int Tryd.underlying3 w3) (trodAll_cons_mk (shut_int Tryd.underlying23 w4) trodAll_mk0))))), rfl, bel.frame _, fun h => by cases h⟩

theorem over : Rows.keysMadeRow.holds Tryd.pinned (OpenSpec.ofChange Rows.keysMadeSpec) :=
  OpenClaim.holds_of_wide 5 Tryd.f5 rfl rfl rfl rfl rfl rfl rfl ⟨rfl, rfl, rfl, rfl, rfl⟩ rfl rfl rfl rfl rfl (by kernel_rfl) Tryd.func5 (by kernel_rfl)
    (of_decide_eq_true (by kernel_rfl)) (by unfold Func.isWrapper; first | (rw [if_pos (by decide +kernel)]; kernel_rfl) | (rw [if_neg (by decide +kernel)]; exact ⟨rfl, rfl⟩))
    (fun os started H enc _ => lifted os started H enc)

/-- the statement -/
theorem proved : Rows.KeysMadeCardSaid :=
  Claim7.holds_tied_plain_at .later [] [.data, .data, .data, .data, .data] true (true, "fe1dbfda3e658804a55fdba0f4ddfa6429789fc06891c4c7fe71500c74ecefd9") false
    over (fun _ h => by cases h) (by kernel_rfl) (fun _ h => by cases h) keysMade_row_tie rfl ⟨rfl, rfl⟩ (by kernel_rfl) rfl
    (fun f fn hf hfn => by
      obtain rfl : f = 5 := Option.some.inj ((show Tryd.prog.funcNamed "domino/dominolaw08.KeysMade" = some 5 by kernel_rfl).symm.trans hf) |>.symm
      obtain rfl : fn = Tryd.f5 := (Option.some.inj (Tryd.func5.symm.trans hfn)).symm
      exact ⟨by kernel_rfl, fun j t ht => by
        rw [Tryd.params5] at ht
        have hm : t ∈ [22, 23, 25, 3, 23] := by simpa using Array.mem_of_getElem? ht
        have hall : ([22, 23, 25, 3, 23].all fun u => !Tryd.prog.wantsStandIn u) = true := by kernel_rfl
        exact (show Tryd.prog.wantsStandIn t = false by simpa using List.all_eq_true.1 hall t hm)⟩)
    (by kernel_rfl)
#print axioms proved
end Go.Proofs.YtoelgcdjhekafaaDoor.keysMade
