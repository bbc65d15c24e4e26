/-
  The functions below, Journal, Job, Sender, Place and Aad of package keys by their contracts. Conditions: keys of 32 bytes; the two tables of package sha lie where the program's text lays them.
  A place's name, by package keys and by the document's own, by their contracts. Conditions: the table of package internal/strconv lies where the program's text lays it.
-/
import Derived.Test.YtoelgcdjhekafaaDoorB13
import Derived.Test.YtoelgcdjhekafaaDoorB7
import Derived.Test.YtoelgcdjhekafaaDoorB9
import Derived.Lib.AtoiErrMem
import Derived.Test.YtoelgcdjhekafaaDoorB12
namespace Go.Proofs.YtoelgcdjhekafaaDoor.Ky
open Go.RowKit Go.Shelf Go.Proofs.YtoelgcdjhekafaaDoor.Mem Go.Proofs.YtoelgcdjhekafaaDoor.Help Go.Proofs.YtoelgcdjhekafaaDoor.Sum Go.Proofs.YtoelgcdjhekafaaDoor.Sha Go.Proofs.YtoelgcdjhekafaaDoor.Mac Go.Proofs.YtoelgcdjhekafaaDoor.Po Go.Proofs.YtoelgcdjhekafaaDoor.Range Go.Proofs.YtoelgcdjhekafaaDoor.Hkdf Go.Proofs.YtoelgcdjhekafaaDoor
set_option linter.unusedVariables false
attribute [local irreducible] wpList wpListIn Calls

section
variable {P : Program} {ops : Array Oper} {Q : Exit → Act → World → Prop}
/-- a text turned into bytes -/
theorem op_text (i : Nat) (d : Option Tmp) {o : Oper} {a : Act} {w : World} {K : Act → World → Prop} (src dst e : TypeId) {x : Operand} (s : ByteArray) (zs : List Int) (hi : ops[i]? = some o) (hd : o.dst = d) (hw : Region.wanted o (yielded ops a.tmps) = true)
    (ho : o.op = .convert src dst x) (hx : a.eval x = .string s) {u : TypeDesc} (hs : P.underlying src = some u) (ht : P.underlying dst = some (.slice e)) (he : P.underlying e = some (.int .u8)) (hz : s.data.toList.map (fun b => (b.toNat : Int)) = zs) (hm : s.size ≤ 1048576)
    (h : ∀ p c' w', OwnM w' w.heap.size e .u8 (.slice (some ⟨p, 0, none⟩) s.size c') zs → Below w.heap.size w w' → Hid (w.heap.size ≤ p) → K (a.put d (.slice (some ⟨p, 0, none⟩) s.size c')) w') : wpOp P ops Q i K a w := by
  subst hd
  refine Held.op_wp i hi hw ?_
  have hrun := Lib.run_convert_string_bytes (P := P) w src dst e s hs ht he
  unfold Oper.wp execOp
  simp only [ho, hx, hrun, Sem.run_bind, Sem.run_pure, Result.andThen_ok]
  exact h _ _ _ (own_text w e s zs hz hm) (Lib.bytesWorld_below w e s) (Lib.hid (Nat.le_refl _))
end
/-- a text's bytes -/
def textOf (s : ByteArray) : List Int := s.data.toList.map fun b => (b.toNat : Int)
theorem textOf_length (s : ByteArray) : (textOf s).length = s.size := by rw [textOf, List.length_map]; rfl

set_option maxRecDepth 100000 in
set_option maxHeartbeats 8000000 in
theorem below_any (above : List Int) (ha : above.length = 32) (hab : ∀ z ∈ above, (Lit.int .u8 z).wf = true) (s : ByteArray) (hs : s.size ≤ 1000) (bx : Nat) (A : Option Addr) (m c : Nat) (xs : List Int) (w : World)
    (hbx : w.cell? ⟨bx, 0, none⟩ = some (.slice A m c)) (hx : Ints w .u64 w.heap.size A m xs) (hm : m ≤ 1000) (hT0 : Tab w 3 Sum.H0) (hT1 : Tab w 4 Sum.K) :
    Calls Tryd.prog 25 #[.agg (arr .u8 above), .string s, .func (.func 37) #[] #[.pointer (some ⟨bx, 0, none⟩)]] w fun e w' => e = .returned (.agg (arr .u8 (hkey [] above (textOf s ++ eights xs)))) ∧ Below w.heap.size w w' := by
  have HK := Lib.hid ha
  have hbl := World.block_lt_of_cell? w _ hbx
  have HS := Lib.hid (textOf_length s)
  have HX := Lib.hid hx.1
  clear ha
  go_enter Tryd.func25, Tryd.ntmps25
  go_wp2_with (first
    | (refine wpList_box_Row (w := w) rfl 22 _ rfl .u8 above rfl hab ?_; intro w1 r1 g1 z1)
    | (refine wpList_alloc_Row (w := w1) rfl 22 rfl .u8 32 zero_32 ?_; intro w2 r2 g2 z2))
  obtain ⟨ga, hga⟩ : ∃ g, w.heap.size = g := ⟨_, rfl⟩
  obtain ⟨gr, hgr⟩ : ∃ g, w1.heap.size = g := ⟨_, rfl⟩
  have k1 := r1.grown g2 (by simp)
  have b2 : Below w.heap.size w w2 := ((Below.refl _ w).grown g1 (Nat.le_refl _) (by simp)).grown g2 g1.size (by simp)
  have hgrw : w.heap.size ≤ gr := by rw [← hgr]; exact g1.size
  rw [hgr] at r2 ⊢
  rw [hga] at k1 ⊢
  have HGA := Lib.hid hga
  clear hga hgr r1 g1 g2 z1 z2
  refine wp_region_held (S := fun W => Below gr w2 W) (by kernel_rfl) ?_
  change wpAnyH _ _ _ _ _ _ _ _ w2.drew
  have e0 := (Below.refl w2.heap.size w2).drew
  have hg2 : gr ≤ w2.heap.size := Nat.le_of_lt r2.lt
  have c0 := e0.mono hg2
  refine Held.take (v := .slice (some ⟨ga, 0, none⟩) 32 32) 0 (some 7) rfl rfl (by kernel_rfl) (by kernel_rfl) (by kernel_rfl) (fun _ _ _ h => h) rfl (Held.y_slice rfl (fun X => run_slice_arr_all (P := Tryd.prog) 22 5 32 ga X Tryd.underlying22 (by kernel_rfl) (by omega))) c0 ?_
  simp only [Act.put, List.setIfInBounds_toArray, List.set_cons_zero, List.set_cons_succ]
  refine Held.take (v := .string s) 1 (some 8) rfl rfl (by kernel_rfl) (by kernel_rfl) (by kernel_rfl) (fun _ _ _ h => h) rfl (Held.y_move rfl rfl) c0 ?_
  simp only [Act.put, List.setIfInBounds_toArray, List.set_cons_zero, List.set_cons_succ]
  refine Held.take (v := .func (.func 37) #[] #[.pointer (some ⟨bx, 0, none⟩)]) 3 (some 10) rfl rfl (by kernel_rfl) (by kernel_rfl) (by kernel_rfl) (fun _ _ _ h => h) rfl (Held.y_move rfl rfl) c0 ?_
  simp only [Act.put, List.setIfInBounds_toArray, List.set_cons_zero, List.set_cons_succ]
  refine Held.one 2 (by kernel_rfl) ?_
  refine op_text 2 (some 9) 9 34 5 s (textOf s) rfl rfl rfl rfl rfl Tryd.underlying9 Tryd.underlying34 Tryd.underlying5 rfl (by omega) ?_
  intro p cp w3 o3 b3 hp
  have hp := hp.out
  have hp : w2.heap.size ≤ p := hp
  have e3 : Below w2.heap.size w2 w3 := e0.trans b3
  have d3 := b2.trans (e3.mono b2.size)
  have hpw : w.heap.size ≤ p := Nat.le_trans b2.size hp
  refine ⟨e3.mono hg2, ?_⟩
  simp only [Act.put, List.setIfInBounds_toArray, List.set_cons_zero, List.set_cons_succ]
  refine Held.one 4 (by kernel_rfl) ?_
  refine Held.op_call 4 (some 11) 29 #[.slice (some ⟨p, 0, none⟩) s.size cp, .func (.func 37) #[] #[.pointer (some ⟨bx, 0, none⟩)]] rfl rfl rfl rfl (enters_of Tryd.func29 (by kernel_rfl) rfl) (by simp [Act.eval]) (laid_any w2.heap.size (some ⟨p, 0, none⟩) s.size cp (textOf s) bx A m c xs w3 o3 e3.size (by rw [HS.out]; omega) ((d3.cell (p := ⟨bx, 0, none⟩) hbl).trans hbx) (fun e => by have e : some p = some bx := e; injection e with e; have : bx < w.heap.size := hbl; omega) (IntsN.of (hx.below d3) (fun b hb e => by have e : some p = some b := e; injection e with e; omega)) (by omega)) ?_
  rintro e w4 ⟨A4, n4, c4, rfl, o4, b4⟩
  have e4 : Below w2.heap.size w2 w4 := e3.trans b4
  have d4 := b2.trans (e4.mono b2.size)
  clear o3 b3 b4
  refine ⟨_, rfl, e4.mono hg2, ?_⟩
  simp only [Act.put, List.setIfInBounds_toArray, List.set_cons_zero, List.set_cons_succ]
  obtain ⟨q1, q2, q3⟩ := o4.caps
  have hn4 : n4 ≤ 20000 := by rw [← q1, List.length_append, eights_length, HS.out, HX.out]; omega
  have i4 := o4.ints q1
  have hk4 := (k1.below e4 k1.lt).ints (n := 32) (by rw [HK.out]; omega)
  rw [List.take_of_length_le (by rw [HK.out]; omega)] at hk4
  have s4 : w2.heap.size ≤ w4.heap.size := e4.size
  clear q1
  refine Held.one 5 (by kernel_rfl) ?_
  refine Held.op_call 5 (some 12) 36 #[.slice none 0 0, .slice (some ⟨ga, 0, none⟩) 32 32, .slice A4 n4 c4] rfl rfl rfl rfl (enters_of Tryd.func36 (by kernel_rfl) rfl) (by simp [Act.eval]) (key_any w4.heap.size w4.heap.size w4.heap.size none (some ⟨ga, 0, none⟩) A4 0 0 32 32 n4 c4 [] above (textOf s ++ eights xs) w4 (Ints.nil _ _ _ _) (Nat.le_refl _) (Nat.le_refl _) (by simp [maxLen]) (by omega) hk4 (Nat.le_refl _) (Nat.le_refl _) (by simp [maxLen]) (by omega) i4 (Nat.le_refl _) q2 q3 (by omega) (hT0.below d4 hT0.lt) (hT1.below d4 hT1.lt)) ?_
  rintro e w5 ⟨rfl, b5⟩
  have e5 := e4.trans (b5.mono e4.size)
  have d5 := b2.trans (e5.mono b2.size)
  have n5 := r2.below e5 r2.lt
  have HO := Lib.hid (hkey_length [] above (textOf s ++ eights xs))
  have HW := Lib.hid (hkey_wf [] above (textOf s ++ eights xs))
  clear i4 hk4 o4 b5
  obtain ⟨key, hkk⟩ : ∃ key, hkey [] above (textOf s ++ eights xs) = key := ⟨_, rfl⟩
  rw [hkk] at HO HW ⊢
  have HKK := Lib.hid hkk
  clear hkk
  refine ⟨_, rfl, e5.mono hg2, ?_⟩
  simp only [Act.put, List.setIfInBounds_toArray, List.set_cons_zero, List.set_cons_succ]
  refine Held.one 6 (by kernel_rfl) ?_
  refine Held.op_store_RowL 6 none 22 gr 22 .u8 _ key rfl rfl rfl rfl rfl rfl n5 32 info_32 HO.out (by simp) HW.out ?_
  intro wz rz gz
  have ez : Below gr w2 wz := (e5.mono hg2).grown gz (Nat.le_trans hg2 e5.size) (fun r e => by cases e; exact Nat.le_refl _)
  have dz := d5.grown gz d5.size (fun r e => by cases e; exact hgrw)
  refine ⟨ez, ?_⟩
  simp only [Act.put]
  refine wpAnyH_done (by kernel_rfl) ?_ _
  clear ez gz
  go_wp2_with fail
  exact bodyPost_ret (results_Row rfl _ _ gr _ _ _ rfl rz 32 5 Tryd.underlying22 info_32 HO.out) rfl ⟨by rw [HKK.out], dz⟩

theorem order_cell (A : Option Addr) (m c : Nat) (w : World) :
    Calls Tryd.prog 26 #[.slice A m c] w fun e w' => ∃ bx : Nat, e = .returned (.func (.func 37) #[] #[.pointer (some ⟨bx, 0, none⟩)]) ∧ w'.cell? ⟨bx, 0, none⟩ = some (.slice A m c) ∧ w.heap.size ≤ bx ∧ Below w.heap.size w w' :=
  (order_any A m c w).mono fun e w' ⟨he, hw⟩ => ⟨w.heap.size, he, by rw [hw, World.cell?_alloc_at _ _ _ _ rfl]; rfl, Nat.le_refl _, by rw [hw]; exact (Below.refl _ w).alloc (Nat.le_refl _) _⟩
/-- the keys, as plain functions -/
def kJob (master : List Int) (id : Int) : List Int := hkey [] master ([106, 111, 98] ++ eights [id])
def kPlace (job : List Int) (ph r a : Int) : List Int := hkey [] job ([112, 108, 97, 99, 101] ++ eights [u64 ph, u64 r, u64 a])
def kSender (job : List Int) (from_ start : Int) : List Int := hkey [] job ([115, 101, 110, 100, 101, 114] ++ eights [u64 from_, start])
def kJournal (job : List Int) : List Int := hkey [] job [106, 111, 117, 114, 110, 97, 108]
set_option maxRecDepth 100000 in
set_option maxHeartbeats 8000000 in
theorem journal_any (key0 : List Int) (hk : key0.length = 32) (hkb : ∀ z ∈ key0, (Lit.int .u8 z).wf = true)  (w : World) (hT0 : Tab w 3 Sum.H0) (hT1 : Tab w 4 Sum.K) :
    Calls Tryd.prog 14 #[.agg (arr .u8 key0)] w fun e w' => e = .returned (.agg (arr .u8 (kJournal key0))) ∧ Below w.heap.size w w' := by
  have HK := Lib.hid hk
  have HKB := Lib.hid hkb
  clear hk hkb
  go_enter Tryd.func14, Tryd.ntmps14
  go_wp2_with (first
    | (refine wpList_box_Row (w := w) rfl 22 _ rfl .u8 key0 rfl HKB.out ?_; intro w1 r1 g1 z1)
    | (refine wpList_alloc_Row (w := w1) rfl 22 rfl .u8 32 zero_32 ?_; intro w2 r2 g2 z2))
  obtain ⟨ga, hga⟩ : ∃ g, w.heap.size = g := ⟨_, rfl⟩
  obtain ⟨gr, hgr⟩ : ∃ g, w1.heap.size = g := ⟨_, rfl⟩
  have k1 := r1.grown g2 (by simp)
  have b2 : Below w.heap.size w w2 := ((Below.refl _ w).grown g1 (Nat.le_refl _) (by simp)).grown g2 g1.size (by simp)
  have hgrw : w.heap.size ≤ gr := by rw [← hgr]; exact g1.size
  rw [hgr] at r2 ⊢
  have hgar : ga < gr := by rw [← hga, ← hgr]; exact r1.lt
  rw [hga] at k1 ⊢
  have HGA := Lib.hid hga
  clear hga hgr r1 g1 g2 z1 z2
  refine wp_region_held (S := fun W => Below gr w2 W) (by kernel_rfl) ?_
  change wpAnyH _ _ _ _ _ _ _ _ w2.drew
  have e0 := (Below.refl w2.heap.size w2).drew
  have hg2 : gr ≤ w2.heap.size := Nat.le_of_lt r2.lt
  have c0 := e0.mono hg2
  refine Held.take (v := .agg (arr .u8 key0)) 0 (some 3) rfl rfl (by kernel_rfl) (by kernel_rfl) (by kernel_rfl) (fun _ _ _ h => h) rfl (Held.y_load_Row (zs := key0) rfl rfl Tryd.underlying22 info_32 HK.out (fun W hW => k1.below hW hgar)) c0 ?_
  simp only [Act.put, List.setIfInBounds_toArray, List.set_cons_zero, List.set_cons_succ]
  refine Held.one 1 (by kernel_rfl) ?_
  refine Held.op_call 1 (some 4) 26 #[.slice none 0 0] rfl rfl rfl rfl (enters_of Tryd.func26 (by kernel_rfl) rfl) (by simp [Act.eval]) (order_cell none 0 0 w2.drew) ?_
  rintro e w4 ⟨bx, rfl, cb, hbx, b4⟩
  have e4 : Below w2.heap.size w2 w4 := e0.trans b4
  clear hbx
  refine ⟨_, rfl, e4.mono hg2, ?_⟩
  simp only [Act.put, List.setIfInBounds_toArray, List.set_cons_zero, List.set_cons_succ]
  refine Held.one 2 (by kernel_rfl) ?_
  refine Held.op_call 2 (some 5) 25 #[.agg (arr .u8 key0), .string ⟨#[106, 111, 117, 114, 110, 97, 108]⟩, .func (.func 37) #[] #[.pointer (some ⟨bx, 0, none⟩)]] rfl rfl rfl rfl (enters_of Tryd.func25 (by kernel_rfl) rfl) (by simp [Act.eval]) (below_any key0 HK.out HKB.out ⟨#[106, 111, 117, 114, 110, 97, 108]⟩ (by decide) bx none 0 0 [] w4 cb (Ints.nil _ _ _ _) (by omega) (hT0.below (b2.trans (e4.mono b2.size)) hT0.lt) (hT1.below (b2.trans (e4.mono b2.size)) hT1.lt)) ?_
  rintro e w5 ⟨rfl, b5⟩
  have e5 := e4.trans (b5.mono e4.size)
  have d5 := b2.trans (e5.mono b2.size)
  have n5 := r2.below e5 r2.lt
  have HO := Lib.hid (hkey_length [] key0 (textOf ⟨#[106, 111, 117, 114, 110, 97, 108]⟩ ++ eights []))
  have HW := Lib.hid (hkey_wf [] key0 (textOf ⟨#[106, 111, 117, 114, 110, 97, 108]⟩ ++ eights []))
  obtain ⟨key, hkk⟩ : ∃ key, hkey [] key0 (textOf ⟨#[106, 111, 117, 114, 110, 97, 108]⟩ ++ eights []) = key := ⟨_, rfl⟩
  rw [hkk] at HO HW ⊢
  have HKK := Lib.hid hkk
  clear hkk b5
  refine ⟨_, rfl, e5.mono hg2, ?_⟩
  simp only [Act.put, List.setIfInBounds_toArray, List.set_cons_zero, List.set_cons_succ]
  refine Held.one 3 (by kernel_rfl) ?_
  refine Held.op_store_RowL 3 none 22 gr 22 .u8 _ key rfl rfl rfl rfl rfl rfl n5 32 info_32 HO.out (by simp) HW.out ?_
  intro wz rz gz
  have ez : Below gr w2 wz := (e5.mono hg2).grown gz (Nat.le_trans hg2 e5.size) (fun r e => by cases e; exact Nat.le_refl _)
  have dz := d5.grown gz d5.size (fun r e => by cases e; exact hgrw)
  refine ⟨ez, ?_⟩
  simp only [Act.put]
  refine wpAnyH_done (by kernel_rfl) ?_ _
  clear ez gz
  go_wp2_with fail
  exact bodyPost_ret (results_Row rfl _ _ gr _ _ _ rfl rz 32 5 Tryd.underlying22 info_32 HO.out) rfl ⟨by rw [← HKK.out]; rfl, dz⟩

set_option maxRecDepth 100000 in
set_option maxHeartbeats 8000000 in
theorem job_any (key0 : List Int) (hk : key0.length = 32) (hkb : ∀ z ∈ key0, (Lit.int .u8 z).wf = true) (id : Int) (hid : (Lit.int .u64 id).wf = true) (w : World) (hT0 : Tab w 3 Sum.H0) (hT1 : Tab w 4 Sum.K) :
    Calls Tryd.prog 7 #[.agg (arr .u8 key0), .int .u64 id] w fun e w' => e = .returned (.agg (arr .u8 (kJob key0 id))) ∧ Below w.heap.size w w' := by
  have HK := Lib.hid hk
  have HKB := Lib.hid hkb
  clear hk hkb
  have hwid : ∀ z ∈ [id], (Lit.int .u64 z).wf = true := fun z hz => by rw [List.mem_singleton.1 hz]; exact hid
  go_enter Tryd.func7, Tryd.ntmps7
  go_wp2_with (first
    | (refine wpList_box_Row (w := w) rfl 22 _ rfl .u8 key0 rfl HKB.out ?_; intro w1 r1 g1 z1)
    | (refine wpList_alloc_Row (w := w1) rfl 22 rfl .u8 32 zero_32 ?_; intro w2 r2 g2 z2))
  obtain ⟨ga, hga⟩ : ∃ g, w.heap.size = g := ⟨_, rfl⟩
  obtain ⟨gr, hgr⟩ : ∃ g, w1.heap.size = g := ⟨_, rfl⟩
  have k1 := r1.grown g2 (by simp)
  have b2 : Below w.heap.size w w2 := ((Below.refl _ w).grown g1 (Nat.le_refl _) (by simp)).grown g2 g1.size (by simp)
  have hgrw : w.heap.size ≤ gr := by rw [← hgr]; exact g1.size
  rw [hgr] at r2 ⊢
  have hgar : ga < gr := by rw [← hga, ← hgr]; exact r1.lt
  rw [hga] at k1 ⊢
  have HGA := Lib.hid hga
  clear hga hgr r1 g1 g2 z1 z2
  refine wp_region_held (S := fun W => Below gr w2 W) (by kernel_rfl) ?_
  change wpAnyH _ _ _ _ _ _ _ _ w2.drew
  have e0 := (Below.refl w2.heap.size w2).drew
  have hg2 : gr ≤ w2.heap.size := Nat.le_of_lt r2.lt
  have c0 := e0.mono hg2
  refine Held.take (v := .agg (arr .u8 key0)) 0 (some 5) rfl rfl (by kernel_rfl) (by kernel_rfl) (by kernel_rfl) (fun _ _ _ h => h) rfl (Held.y_load_Row (zs := key0) rfl rfl Tryd.underlying22 info_32 HK.out (fun W hW => k1.below hW hgar)) c0 ?_
  simp only [Act.put, List.setIfInBounds_toArray, List.set_cons_zero, List.set_cons_succ]
  refine Held.take (v := .int .u64 id) 1 (some 6) rfl rfl (by kernel_rfl) (by kernel_rfl) (by kernel_rfl) (fun _ _ _ h => h) rfl (Held.y_move rfl rfl) c0 ?_
  simp only [Act.put, List.setIfInBounds_toArray, List.set_cons_zero, List.set_cons_succ]
  refine Held.one 2 (by kernel_rfl) ?_
  refine Held.op_build_Row 2 (some 7) 60 23 1 .u64 8 [id] rfl rfl rfl rfl Tryd.underlying60 info_w64 (by simp [Act.eval]) rfl (by omega) (by omega) hwid ?_
  intro p w3 r3 b3 z3
  have e3 : Below w2.heap.size w2 w3 := e0.trans b3
  refine ⟨e3.mono hg2, ?_⟩
  simp only [Act.put, List.setIfInBounds_toArray, List.set_cons_zero, List.set_cons_succ]
  refine Held.one 3 (by kernel_rfl) ?_
  refine Held.op_call 3 (some 8) 26 #[.slice (some ⟨p, 0, none⟩) 1 1] rfl rfl rfl rfl (enters_of Tryd.func26 (by kernel_rfl) rfl) (by simp [Act.eval]) (order_cell _ 1 1 w3) ?_
  rintro e w4 ⟨bx, rfl, cb, hbx, b4⟩
  have e4 := e3.trans (b4.mono e3.size)
  have r4 := r3.below b4 r3.lt
  clear hbx
  refine ⟨_, rfl, e4.mono hg2, ?_⟩
  simp only [Act.put, List.setIfInBounds_toArray, List.set_cons_zero, List.set_cons_succ]
  refine Held.one 4 (by kernel_rfl) ?_
  refine Held.op_call 4 (some 9) 25 #[.agg (arr .u8 key0), .string ⟨#[106, 111, 98]⟩, .func (.func 37) #[] #[.pointer (some ⟨bx, 0, none⟩)]] rfl rfl rfl rfl (enters_of Tryd.func25 (by kernel_rfl) rfl) (by simp [Act.eval]) (below_any key0 HK.out HKB.out ⟨#[106, 111, 98]⟩ (by decide) bx (some ⟨p, 0, none⟩) 1 1 [id] w4 cb (r4.ints (n := 1) (by simp)) (by omega) (hT0.below (b2.trans (e4.mono b2.size)) hT0.lt) (hT1.below (b2.trans (e4.mono b2.size)) hT1.lt)) ?_
  rintro e w5 ⟨rfl, b5⟩
  have e5 := e4.trans (b5.mono e4.size)
  have d5 := b2.trans (e5.mono b2.size)
  have n5 := r2.below e5 r2.lt
  have HO := Lib.hid (hkey_length [] key0 (textOf ⟨#[106, 111, 98]⟩ ++ eights [id]))
  have HW := Lib.hid (hkey_wf [] key0 (textOf ⟨#[106, 111, 98]⟩ ++ eights [id]))
  obtain ⟨key, hkk⟩ : ∃ key, hkey [] key0 (textOf ⟨#[106, 111, 98]⟩ ++ eights [id]) = key := ⟨_, rfl⟩
  rw [hkk] at HO HW ⊢
  have HKK := Lib.hid hkk
  clear hkk b5
  refine ⟨_, rfl, e5.mono hg2, ?_⟩
  simp only [Act.put, List.setIfInBounds_toArray, List.set_cons_zero, List.set_cons_succ]
  refine Held.one 5 (by kernel_rfl) ?_
  refine Held.op_store_RowL 5 none 22 gr 22 .u8 _ key rfl rfl rfl rfl rfl rfl n5 32 info_32 HO.out (by simp) HW.out ?_
  intro wz rz gz
  have ez : Below gr w2 wz := (e5.mono hg2).grown gz (Nat.le_trans hg2 e5.size) (fun r e => by cases e; exact Nat.le_refl _)
  have dz := d5.grown gz d5.size (fun r e => by cases e; exact hgrw)
  refine ⟨ez, ?_⟩
  simp only [Act.put]
  refine wpAnyH_done (by kernel_rfl) ?_ _
  clear ez gz
  go_wp2_with fail
  exact bodyPost_ret (results_Row rfl _ _ gr _ _ _ rfl rz 32 5 Tryd.underlying22 info_32 HO.out) rfl ⟨by rw [← HKK.out]; rfl, dz⟩

set_option maxRecDepth 100000 in
set_option maxHeartbeats 8000000 in
theorem sender_any (key0 : List Int) (hk : key0.length = 32) (hkb : ∀ z ∈ key0, (Lit.int .u8 z).wf = true) (from_ start : Int) (hst : (Lit.int .u64 start).wf = true) (w : World) (hT0 : Tab w 3 Sum.H0) (hT1 : Tab w 4 Sum.K) :
    Calls Tryd.prog 12 #[.agg (arr .u8 key0), .int .i64 from_, .int .u64 start] w fun e w' => e = .returned (.agg (arr .u8 (kSender key0 from_ start))) ∧ Below w.heap.size w w' := by
  have HK := Lib.hid hk
  have HKB := Lib.hid hkb
  clear hk hkb
  have hwid : ∀ z ∈ [u64 from_, start], (Lit.int .u64 z).wf = true := fun z hz => by
    rcases List.mem_cons.1 hz with rfl | hz
    · exact u64_wf _
    · rw [List.mem_singleton.1 hz]; exact hst
  go_enter Tryd.func12, Tryd.ntmps12
  go_wp2_with (first
    | (refine wpList_box_Row (w := w) rfl 22 _ rfl .u8 key0 rfl HKB.out ?_; intro w1 r1 g1 z1)
    | (refine wpList_alloc_Row (w := w1) rfl 22 rfl .u8 32 zero_32 ?_; intro w2 r2 g2 z2))
  obtain ⟨ga, hga⟩ : ∃ g, w.heap.size = g := ⟨_, rfl⟩
  obtain ⟨gr, hgr⟩ : ∃ g, w1.heap.size = g := ⟨_, rfl⟩
  have k1 := r1.grown g2 (by simp)
  have b2 : Below w.heap.size w w2 := ((Below.refl _ w).grown g1 (Nat.le_refl _) (by simp)).grown g2 g1.size (by simp)
  have hgrw : w.heap.size ≤ gr := by rw [← hgr]; exact g1.size
  rw [hgr] at r2 ⊢
  have hgar : ga < gr := by rw [← hga, ← hgr]; exact r1.lt
  rw [hga] at k1 ⊢
  have HGA := Lib.hid hga
  clear hga hgr r1 g1 g2 z1 z2
  refine wp_region_held (S := fun W => Below gr w2 W) (by kernel_rfl) ?_
  change wpAnyH _ _ _ _ _ _ _ _ w2.drew
  have e0 := (Below.refl w2.heap.size w2).drew
  have hg2 : gr ≤ w2.heap.size := Nat.le_of_lt r2.lt
  have c0 := e0.mono hg2
  refine Held.take (v := .agg (arr .u8 key0)) 0 (some 7) rfl rfl (by kernel_rfl) (by kernel_rfl) (by kernel_rfl) (fun _ _ _ h => h) rfl (Held.y_load_Row (zs := key0) rfl rfl Tryd.underlying22 info_32 HK.out (fun W hW => k1.below hW hgar)) c0 ?_
  simp only [Act.put, List.setIfInBounds_toArray, List.set_cons_zero, List.set_cons_succ]
  refine Held.take (v := .int .i64 from_) 1 (some 8) rfl rfl (by kernel_rfl) (by kernel_rfl) (by kernel_rfl) (fun _ _ _ h => h) rfl (Held.y_move rfl rfl) c0 ?_
  simp only [Act.put, List.setIfInBounds_toArray, List.set_cons_zero, List.set_cons_succ]
  refine Held.take (v := .int .u64 (u64 from_)) 2 (some 9) rfl rfl (by kernel_rfl) (by kernel_rfl) (by kernel_rfl) (fun _ _ _ h => h) rfl (Held.y_convert rfl rfl (by kernel_rfl) Tryd.underlying23 (u64_eq _)) c0 ?_
  simp only [Act.put, List.setIfInBounds_toArray, List.set_cons_zero, List.set_cons_succ]
  refine Held.take (v := .int .u64 start) 3 (some 10) rfl rfl (by kernel_rfl) (by kernel_rfl) (by kernel_rfl) (fun _ _ _ h => h) rfl (Held.y_move rfl rfl) c0 ?_
  simp only [Act.put, List.setIfInBounds_toArray, List.set_cons_zero, List.set_cons_succ]
  refine Held.one 4 (by kernel_rfl) ?_
  refine Held.op_build_Row 4 (some 11) 60 23 2 .u64 8 [u64 from_, start] rfl rfl rfl rfl Tryd.underlying60 info_w64 (by simp [Act.eval]) rfl (by omega) (by omega) hwid ?_
  intro p w3 r3 b3 z3
  have e3 : Below w2.heap.size w2 w3 := e0.trans b3
  refine ⟨e3.mono hg2, ?_⟩
  simp only [Act.put, List.setIfInBounds_toArray, List.set_cons_zero, List.set_cons_succ]
  refine Held.one 5 (by kernel_rfl) ?_
  refine Held.op_call 5 (some 12) 26 #[.slice (some ⟨p, 0, none⟩) 2 2] rfl rfl rfl rfl (enters_of Tryd.func26 (by kernel_rfl) rfl) (by simp [Act.eval]) (order_cell _ 2 2 w3) ?_
  rintro e w4 ⟨bx, rfl, cb, hbx, b4⟩
  have e4 := e3.trans (b4.mono e3.size)
  have r4 := r3.below b4 r3.lt
  clear hbx
  refine ⟨_, rfl, e4.mono hg2, ?_⟩
  simp only [Act.put, List.setIfInBounds_toArray, List.set_cons_zero, List.set_cons_succ]
  refine Held.one 6 (by kernel_rfl) ?_
  refine Held.op_call 6 (some 13) 25 #[.agg (arr .u8 key0), .string ⟨#[115, 101, 110, 100, 101, 114]⟩, .func (.func 37) #[] #[.pointer (some ⟨bx, 0, none⟩)]] rfl rfl rfl rfl (enters_of Tryd.func25 (by kernel_rfl) rfl) (by simp [Act.eval]) (below_any key0 HK.out HKB.out ⟨#[115, 101, 110, 100, 101, 114]⟩ (by decide) bx (some ⟨p, 0, none⟩) 2 2 [u64 from_, start] w4 cb (r4.ints (n := 2) (by simp)) (by omega) (hT0.below (b2.trans (e4.mono b2.size)) hT0.lt) (hT1.below (b2.trans (e4.mono b2.size)) hT1.lt)) ?_
  rintro e w5 ⟨rfl, b5⟩
  have e5 := e4.trans (b5.mono e4.size)
  have d5 := b2.trans (e5.mono b2.size)
  have n5 := r2.below e5 r2.lt
  have HO := Lib.hid (hkey_length [] key0 (textOf ⟨#[115, 101, 110, 100, 101, 114]⟩ ++ eights [u64 from_, start]))
  have HW := Lib.hid (hkey_wf [] key0 (textOf ⟨#[115, 101, 110, 100, 101, 114]⟩ ++ eights [u64 from_, start]))
  obtain ⟨key, hkk⟩ : ∃ key, hkey [] key0 (textOf ⟨#[115, 101, 110, 100, 101, 114]⟩ ++ eights [u64 from_, start]) = key := ⟨_, rfl⟩
  rw [hkk] at HO HW ⊢
  have HKK := Lib.hid hkk
  clear hkk b5
  refine ⟨_, rfl, e5.mono hg2, ?_⟩
  simp only [Act.put, List.setIfInBounds_toArray, List.set_cons_zero, List.set_cons_succ]
  refine Held.one 7 (by kernel_rfl) ?_
  refine Held.op_store_RowL 7 none 22 gr 22 .u8 _ key rfl rfl rfl rfl rfl rfl n5 32 info_32 HO.out (by simp) HW.out ?_
  intro wz rz gz
  have ez : Below gr w2 wz := (e5.mono hg2).grown gz (Nat.le_trans hg2 e5.size) (fun r e => by cases e; exact Nat.le_refl _)
  have dz := d5.grown gz d5.size (fun r e => by cases e; exact hgrw)
  refine ⟨ez, ?_⟩
  simp only [Act.put]
  refine wpAnyH_done (by kernel_rfl) ?_ _
  clear ez gz
  go_wp2_with fail
  exact bodyPost_ret (results_Row rfl _ _ gr _ _ _ rfl rz 32 5 Tryd.underlying22 info_32 HO.out) rfl ⟨by rw [← HKK.out]; rfl, dz⟩

theorem wpList_box_place {P : Program} {ops : Array Oper} {rest : List Oper} {o : Oper} {a : Act} {w : World} {Q : Exit → Act → World → Prop} (hgd : o.guard = none) (x : Operand) (ho : o.op = .box 25 x) (cs : Array Value) (hx : a.eval x = .agg cs) (hc : (Value.agg cs).cells = cs)
    (h : ∀ w', w'.heap[w.heap.size]? = some (.cells cs 25 (0, 0)) → w.grownBy w' none → wpList P ops Q rest (a.put o.dst (.pointer (some ⟨w.heap.size, 0, none⟩))) w') : wpList P ops Q (o :: rest) a w := by
  refine wpList_plain hgd fun K hK => ?_
  unfold Oper.wp execOp
  simp only [ho, hx, Sem.run_bind, Instr.box, newVar, newRow, run_newObj_alloc, Sem.run_pure, Result.andThen_ok, hc]
  exact hK _ _ (h _ (heap_alloc_new w _) (World.grownBy_alloc w _ none))

set_option maxRecDepth 100000 in
set_option maxHeartbeats 8000000 in
theorem place_any (key0 : List Int) (hk : key0.length = 32) (hkb : ∀ z ∈ key0, (Lit.int .u8 z).wf = true) (ph r a t i : Int) (w : World) (hT0 : Tab w 3 Sum.H0) (hT1 : Tab w 4 Sum.K) :
    Calls Tryd.prog 10 #[.agg (arr .u8 key0), .agg #[.int .i64 ph, .int .i64 r, .int .i64 a, .int .u64 t, .int .i64 i]] w fun e w' => e = .returned (.agg (arr .u8 (kPlace key0 ph r a))) ∧ Below w.heap.size w w' := by
  have HK := Lib.hid hk
  have HKB := Lib.hid hkb
  clear hk hkb
  go_enter Tryd.func10, Tryd.ntmps10
  go_wp2_with (first
    | (refine wpList_box_Row (w := w) rfl 22 _ rfl .u8 key0 rfl HKB.out ?_; intro w1 r1 g1 z1)
    | (refine wpList_box_place (w := w1) rfl _ rfl #[.int .i64 ph, .int .i64 r, .int .i64 a, .int .u64 t, .int .i64 i] rfl rfl ?_; intro wq rq gq)
    | (refine wpList_alloc_Row (w := wq) rfl 22 rfl .u8 32 zero_32 ?_; intro w2 r2 g2 z2))
  obtain ⟨ga, hga⟩ : ∃ g, w.heap.size = g := ⟨_, rfl⟩
  obtain ⟨gp, hgp⟩ : ∃ g, w1.heap.size = g := ⟨_, rfl⟩
  obtain ⟨gr, hgr⟩ : ∃ g, wq.heap.size = g := ⟨_, rfl⟩
  have k1 := (r1.grown gq (by simp)).grown g2 (by simp)
  have b2 : Below w.heap.size w w2 := (((Below.refl _ w).grown g1 (Nat.le_refl _) (by simp)).grown gq g1.size (by simp)).grown g2 (Nat.le_trans g1.size gq.size) (by simp)
  have hgrw : w.heap.size ≤ gr := by rw [← hgr]; exact Nat.le_trans g1.size gq.size
  have hgpr : gp < gr := by rw [← hgr]; rw [hgp] at rq; exact (Array.getElem?_eq_some_iff.1 rq).1
  have q2 := Held.keep_cells rq g2 (by simp)
  rw [hgr] at r2 ⊢
  rw [hgp] at q2 ⊢
  have hgar : ga < gr := by rw [← hga]; exact Nat.lt_of_lt_of_le r1.lt (by rw [← hgr]; exact gq.size)
  rw [hga] at k1 ⊢
  have HGA := Lib.hid hga
  clear hga hgr hgp r1 g1 gq g2 z1 z2 rq
  refine wp_region_held (S := fun W => Below gr w2 W) (by kernel_rfl) ?_
  change wpAnyH _ _ _ _ _ _ _ _ w2.drew
  have e0 := (Below.refl w2.heap.size w2).drew
  have hg2 : gr ≤ w2.heap.size := Nat.le_of_lt r2.lt
  have c0 := e0.mono hg2
  refine Held.take (v := .agg (arr .u8 key0)) 0 (some 5) rfl rfl (by kernel_rfl) (by kernel_rfl) (by kernel_rfl) (fun _ _ _ h => h) rfl (Held.y_load_Row (zs := key0) rfl rfl Tryd.underlying22 info_32 HK.out (fun W hW => k1.below hW hgar)) c0 ?_
  simp only [Act.put, List.setIfInBounds_toArray, List.set_cons_zero, List.set_cons_succ]
  refine Held.take (v := .agg #[.int .i64 ph, .int .i64 r, .int .i64 a, .int .u64 t, .int .i64 i]) 1 (some 6) rfl rfl (by kernel_rfl) (by kernel_rfl) (by kernel_rfl) (fun _ _ _ h => h) rfl (y_load_place rfl rfl rfl (fun W hW => (hW.block gp hgpr).trans q2)) c0 ?_
  simp only [Act.put, List.setIfInBounds_toArray, List.set_cons_zero, List.set_cons_succ]
  refine Held.one 2 (by kernel_rfl) ?_
  refine Held.op_call 2 (some 7) 27 #[.agg #[.int .i64 ph, .int .i64 r, .int .i64 a, .int .u64 t, .int .i64 i]] rfl rfl rfl rfl (enters_of Tryd.func27 (by kernel_rfl) rfl) (by simp [Act.eval]) (spot_any ph r a t i w2.drew) ?_
  rintro e w4 ⟨bx, p, rfl, cb, r4, hp1, hp2, b4⟩
  have e4 : Below w2.heap.size w2 w4 := e0.trans b4
  clear hp1 hp2
  refine ⟨_, rfl, e4.mono hg2, ?_⟩
  simp only [Act.put, List.setIfInBounds_toArray, List.set_cons_zero, List.set_cons_succ]
  refine Held.one 3 (by kernel_rfl) ?_
  refine Held.op_call 3 (some 8) 25 #[.agg (arr .u8 key0), .string ⟨#[112, 108, 97, 99, 101]⟩, .func (.func 37) #[] #[.pointer (some ⟨bx, 0, none⟩)]] rfl rfl rfl rfl (enters_of Tryd.func25 (by kernel_rfl) rfl) (by simp [Act.eval]) (below_any key0 HK.out HKB.out ⟨#[112, 108, 97, 99, 101]⟩ (by decide) bx (some ⟨p, 0, none⟩) 3 3 [u64 ph, u64 r, u64 a] w4 cb (r4.ints (n := 3) (by simp)) (by omega) (hT0.below (b2.trans (e4.mono b2.size)) hT0.lt) (hT1.below (b2.trans (e4.mono b2.size)) hT1.lt)) ?_
  rintro e w5 ⟨rfl, b5⟩
  have e5 := e4.trans (b5.mono e4.size)
  have d5 := b2.trans (e5.mono b2.size)
  have n5 := r2.below e5 r2.lt
  have HO := Lib.hid (hkey_length [] key0 (textOf ⟨#[112, 108, 97, 99, 101]⟩ ++ eights [u64 ph, u64 r, u64 a]))
  have HW := Lib.hid (hkey_wf [] key0 (textOf ⟨#[112, 108, 97, 99, 101]⟩ ++ eights [u64 ph, u64 r, u64 a]))
  obtain ⟨key, hkk⟩ : ∃ key, hkey [] key0 (textOf ⟨#[112, 108, 97, 99, 101]⟩ ++ eights [u64 ph, u64 r, u64 a]) = key := ⟨_, rfl⟩
  rw [hkk] at HO HW ⊢
  have HKK := Lib.hid hkk
  clear hkk b5
  refine ⟨_, rfl, e5.mono hg2, ?_⟩
  simp only [Act.put, List.setIfInBounds_toArray, List.set_cons_zero, List.set_cons_succ]
  refine Held.one 4 (by kernel_rfl) ?_
  refine Held.op_store_RowL 4 none 22 gr 22 .u8 _ key rfl rfl rfl rfl rfl rfl n5 32 info_32 HO.out (by simp) HW.out ?_
  intro wz rz gz
  have ez : Below gr w2 wz := (e5.mono hg2).grown gz (Nat.le_trans hg2 e5.size) (fun r e => by cases e; exact Nat.le_refl _)
  have dz := d5.grown gz d5.size (fun r e => by cases e; exact hgrw)
  refine ⟨ez, ?_⟩
  simp only [Act.put]
  refine wpAnyH_done (by kernel_rfl) ?_ _
  clear ez gz
  go_wp2_with fail
  exact bodyPost_ret (results_Row rfl _ _ gr _ _ _ rfl rz 32 5 Tryd.underlying22 info_32 HO.out) rfl ⟨by rw [← HKK.out]; rfl, dz⟩

end Go.Proofs.YtoelgcdjhekafaaDoor.Ky
namespace Go.Proofs.YtoelgcdjhekafaaDoor.Ky
open Go.RowKit Go.Shelf Go.Proofs.YtoelgcdjhekafaaDoor.Mem Go.Proofs.YtoelgcdjhekafaaDoor.Help Go.Proofs.YtoelgcdjhekafaaDoor.Po Go.Proofs.YtoelgcdjhekafaaDoor
set_option linter.unusedVariables false
attribute [local irreducible] wpList wpListIn Calls

/-- a place's name -/
def nameU (ph r a : Int) (t : Nat) (i : Int) : List UInt8 := [112] ++ Lib.itoa ph ++ [46, 114] ++ Lib.itoa r ++ [46, 97] ++ Lib.itoa a ++ [46, 116] ++ Lib.decDigits t ++ [46, 105] ++ Lib.itoa i
/-- a number that an int holds -/
def I64 (x : Int) : Prop := -9223372036854775808 ≤ x ∧ x ≤ 9223372036854775807
theorem i64_of {x : Int} (h : (Lit.int .i64 x).wf = true) : I64 x := wf_i64 h
theorem nameU_length (ph r a : Int) (t : Nat) (i : Int) (h1 : I64 ph) (h2 : I64 r) (h3 : I64 a) (h4 : t < 18446744073709551616) (h5 : I64 i) : (nameU ph r a t i).length ≤ 200 := by
  have l1 := itoa_length ph h1
  have l2 := itoa_length r h2
  have l3 := itoa_length a h3
  have l4 := dec_length t h4
  have l5 := itoa_length i h5
  simp [nameU]
  omega

set_option maxRecDepth 100000 in
set_option maxHeartbeats 8000000 in
theorem name_any (ph r a : Int) (t : Nat) (i : Int) (h1 : I64 ph) (h2 : I64 r) (h3 : I64 a) (h4 : t < 18446744073709551616) (h5 : I64 i) (w : World) (hP : Pow w) :
    Calls Tryd.prog 21 #[.agg #[.int .i64 ph, .int .i64 r, .int .i64 a, .int .u64 (t : Int), .int .i64 i]] w fun e w' => e = .returned (.string ⟨(nameU ph r a t i).toArray⟩) ∧ Below w.heap.size w w' := by
  have l1 := itoa_length ph h1
  have l2 := itoa_length r h2
  have l3 := itoa_length a h3
  have l4 := dec_length t h4
  have l5 := itoa_length i h5
  obtain ⟨n1, e1⟩ : ∃ l, [112] ++ Lib.itoa ph = l := ⟨_, rfl⟩
  have m1 : n1.length ≤ 22 := by rw [← e1]; simp; omega
  obtain ⟨n2, e2⟩ : ∃ l, n1 ++ [46, 114] = l := ⟨_, rfl⟩
  have m2 : n2.length ≤ 24 := by rw [← e2]; simp; omega
  obtain ⟨n3, e3⟩ : ∃ l, n2 ++ Lib.itoa r = l := ⟨_, rfl⟩
  have m3 : n3.length ≤ 45 := by rw [← e3]; simp; omega
  obtain ⟨n4, e4⟩ : ∃ l, n3 ++ [46, 97] = l := ⟨_, rfl⟩
  have m4 : n4.length ≤ 47 := by rw [← e4]; simp; omega
  obtain ⟨n5, e5⟩ : ∃ l, n4 ++ Lib.itoa a = l := ⟨_, rfl⟩
  have m5 : n5.length ≤ 68 := by rw [← e5]; simp; omega
  obtain ⟨n6, e6⟩ : ∃ l, n5 ++ [46, 116] = l := ⟨_, rfl⟩
  have m6 : n6.length ≤ 70 := by rw [← e6]; simp; omega
  obtain ⟨n7, e7⟩ : ∃ l, n6 ++ Lib.decDigits t = l := ⟨_, rfl⟩
  have m7 : n7.length ≤ 90 := by rw [← e7]; simp; omega
  obtain ⟨n8, e8⟩ : ∃ l, n7 ++ [46, 105] = l := ⟨_, rfl⟩
  have m8 : n8.length ≤ 92 := by rw [← e8]; simp; omega
  obtain ⟨n9, e9⟩ : ∃ l, n8 ++ Lib.itoa i = l := ⟨_, rfl⟩
  have m9 : n9.length ≤ 113 := by rw [← e9]; simp; omega
  have E1 := Lib.hid e1
  have M1 := Lib.hid (Nat.le_trans m1 (show _ ≤ 1048576 by omega))
  have E2 := Lib.hid e2
  have M2 := Lib.hid (Nat.le_trans m2 (show _ ≤ 1048576 by omega))
  have E3 := Lib.hid e3
  have M3 := Lib.hid (Nat.le_trans m3 (show _ ≤ 1048576 by omega))
  have E4 := Lib.hid e4
  have M4 := Lib.hid (Nat.le_trans m4 (show _ ≤ 1048576 by omega))
  have E5 := Lib.hid e5
  have M5 := Lib.hid (Nat.le_trans m5 (show _ ≤ 1048576 by omega))
  have E6 := Lib.hid e6
  have M6 := Lib.hid (Nat.le_trans m6 (show _ ≤ 1048576 by omega))
  have E7 := Lib.hid e7
  have M7 := Lib.hid (Nat.le_trans m7 (show _ ≤ 1048576 by omega))
  have E8 := Lib.hid e8
  have M8 := Lib.hid (Nat.le_trans m8 (show _ ≤ 1048576 by omega))
  have E9 := Lib.hid e9
  have M9 := Lib.hid (Nat.le_trans m9 (show _ ≤ 1048576 by omega))
  have HN := Lib.hid (show nameU ph r a t i = n9 by rw [← e9, ← e8, ← e7, ← e6, ← e5, ← e4, ← e3, ← e2, ← e1]; rfl)
  clear e1 m1 e2 m2 e3 m3 e4 m4 e5 m5 e6 m6 e7 m7 e8 m8 e9 m9 l1 l2 l3 l4 l5
  go_enter Tryd.func21, Tryd.ntmps21
  go_wp2_with (refine wpList_box_place (w := w) rfl _ rfl #[.int .i64 ph, .int .i64 r, .int .i64 a, .int .u64 (t : Int), .int .i64 i] rfl rfl ?_; intro w1 q1 g1)
  have bw : Below w.heap.size w w1 := (Below.refl _ w).grown g1 (Nat.le_refl _) (by simp)
  obtain ⟨bp, hbe⟩ : ∃ b, w.heap.size = b := ⟨_, rfl⟩
  rw [hbe] at q1 ⊢
  have hbp : bp < w1.heap.size := (Array.getElem?_eq_some_iff.1 q1).1
  have f0 : w1.cell? ⟨bp, 0, none⟩ = some (.int .i64 ph) := by rw [cell_of_row w1 bp 0 _ _ _ q1]; rfl
  have f1 : w1.cell? ⟨bp, 1, none⟩ = some (.int .i64 r) := by rw [cell_of_row w1 bp 1 _ _ _ q1]; rfl
  have f2 : w1.cell? ⟨bp, 2, none⟩ = some (.int .i64 a) := by rw [cell_of_row w1 bp 2 _ _ _ q1]; rfl
  have f3 : w1.cell? ⟨bp, 3, none⟩ = some (.int .u64 (t : Int)) := by rw [cell_of_row w1 bp 3 _ _ _ q1]; rfl
  have f4 : w1.cell? ⟨bp, 4, none⟩ = some (.int .i64 i) := by rw [cell_of_row w1 bp 4 _ _ _ q1]; rfl
  have HBE := Lib.hid hbe
  have hPw := hP.below bw hP.lt
  clear hbe g1 q1
  refine wp_region_held (S := fun W => Below w1.heap.size w1 W) (by kernel_rfl) ?_
  change wpAnyH _ _ _ _ _ _ _ _ w1.drew
  have c0_0 := (Below.refl w1.heap.size w1).drew
  refine Held.take (v := .pointer (some ⟨bp, 0, none⟩)) 0 (some 3) rfl rfl (by kernel_rfl) (by kernel_rfl) (by kernel_rfl) (fun _ _ _ h => h) rfl (y_place (by omega) rfl rfl) c0_0 ?_
  simp only [Act.put, List.setIfInBounds_toArray, List.set_cons_zero, List.set_cons_succ]
  refine Held.take (v := .int .i64 ph) 1 (some 4) rfl rfl (by kernel_rfl) (by kernel_rfl) (by kernel_rfl) (fun _ _ _ h => h) rfl (Held.y_load rfl rfl (by kernel_rfl) (fun W hW => (hW.cell (p := ⟨bp, 0, none⟩) hbp).trans f0)) c0_0 ?_
  simp only [Act.put, List.setIfInBounds_toArray, List.set_cons_zero, List.set_cons_succ]
  refine Held.take (v := .pointer (some ⟨bp, 1, none⟩)) 5 (some 8) rfl rfl (by kernel_rfl) (by kernel_rfl) (by kernel_rfl) (fun _ _ _ h => h) rfl (y_place (by omega) rfl rfl) c0_0 ?_
  simp only [Act.put, List.setIfInBounds_toArray, List.set_cons_zero, List.set_cons_succ]
  refine Held.take (v := .int .i64 r) 6 (some 9) rfl rfl (by kernel_rfl) (by kernel_rfl) (by kernel_rfl) (fun _ _ _ h => h) rfl (Held.y_load rfl rfl (by kernel_rfl) (fun W hW => (hW.cell (p := ⟨bp, 1, none⟩) hbp).trans f1)) c0_0 ?_
  simp only [Act.put, List.setIfInBounds_toArray, List.set_cons_zero, List.set_cons_succ]
  refine Held.take (v := .pointer (some ⟨bp, 2, none⟩)) 10 (some 13) rfl rfl (by kernel_rfl) (by kernel_rfl) (by kernel_rfl) (fun _ _ _ h => h) rfl (y_place (by omega) rfl rfl) c0_0 ?_
  simp only [Act.put, List.setIfInBounds_toArray, List.set_cons_zero, List.set_cons_succ]
  refine Held.take (v := .int .i64 a) 11 (some 14) rfl rfl (by kernel_rfl) (by kernel_rfl) (by kernel_rfl) (fun _ _ _ h => h) rfl (Held.y_load rfl rfl (by kernel_rfl) (fun W hW => (hW.cell (p := ⟨bp, 2, none⟩) hbp).trans f2)) c0_0 ?_
  simp only [Act.put, List.setIfInBounds_toArray, List.set_cons_zero, List.set_cons_succ]
  refine Held.take (v := .pointer (some ⟨bp, 3, none⟩)) 15 (some 18) rfl rfl (by kernel_rfl) (by kernel_rfl) (by kernel_rfl) (fun _ _ _ h => h) rfl (y_place (by omega) rfl rfl) c0_0 ?_
  simp only [Act.put, List.setIfInBounds_toArray, List.set_cons_zero, List.set_cons_succ]
  refine Held.take (v := .int .u64 (t : Int)) 16 (some 19) rfl rfl (by kernel_rfl) (by kernel_rfl) (by kernel_rfl) (fun _ _ _ h => h) rfl (Held.y_load rfl rfl (by kernel_rfl) (fun W hW => (hW.cell (p := ⟨bp, 3, none⟩) hbp).trans f3)) c0_0 ?_
  simp only [Act.put, List.setIfInBounds_toArray, List.set_cons_zero, List.set_cons_succ]
  refine Held.take (v := .pointer (some ⟨bp, 4, none⟩)) 20 (some 23) rfl rfl (by kernel_rfl) (by kernel_rfl) (by kernel_rfl) (fun _ _ _ h => h) rfl (y_place (by omega) rfl rfl) c0_0 ?_
  simp only [Act.put, List.setIfInBounds_toArray, List.set_cons_zero, List.set_cons_succ]
  refine Held.take (v := .int .i64 i) 21 (some 24) rfl rfl (by kernel_rfl) (by kernel_rfl) (by kernel_rfl) (fun _ _ _ h => h) rfl (Held.y_load rfl rfl (by kernel_rfl) (fun W hW => (hW.cell (p := ⟨bp, 4, none⟩) hbp).trans f4)) c0_0 ?_
  simp only [Act.put, List.setIfInBounds_toArray, List.set_cons_zero, List.set_cons_succ]
  refine Held.one 2 (by kernel_rfl) ?_
  refine Held.op_call 2 (some 5) 30 #[.int .i64 ph] rfl rfl rfl rfl (enters_of Tryd.func30 (by kernel_rfl) rfl) (by simp [Act.eval]) (itoa_any ph h1 w1.drew (hPw.below c0_0 hPw.lt)) ?_
  rintro e w2 ⟨rfl, b1⟩
  have c0_1 := c0_0.trans (b1.mono c0_0.size)
  refine ⟨_, rfl, c0_1, ?_⟩
  simp only [Act.put, List.setIfInBounds_toArray, List.set_cons_zero, List.set_cons_succ]
  refine Held.take (v := .string ⟨n1.toArray⟩) 3 (some 6) rfl rfl (by kernel_rfl) (by kernel_rfl) (by kernel_rfl) (fun _ _ _ h => h) rfl (y_cat rfl rfl rfl E1.out M1.out) c0_1 ?_
  simp only [Act.put, List.setIfInBounds_toArray, List.set_cons_zero, List.set_cons_succ]
  refine Held.take (v := .string ⟨n2.toArray⟩) 4 (some 7) rfl rfl (by kernel_rfl) (by kernel_rfl) (by kernel_rfl) (fun _ _ _ h => h) rfl (y_cat rfl rfl rfl E2.out M2.out) c0_1 ?_
  simp only [Act.put, List.setIfInBounds_toArray, List.set_cons_zero, List.set_cons_succ]
  refine Held.one 7 (by kernel_rfl) ?_
  refine Held.op_call 7 (some 10) 30 #[.int .i64 r] rfl rfl rfl rfl (enters_of Tryd.func30 (by kernel_rfl) rfl) (by simp [Act.eval]) (itoa_any r h2 w2 (hPw.below c0_1 hPw.lt)) ?_
  rintro e w3 ⟨rfl, b2⟩
  have c0_2 := c0_1.trans (b2.mono c0_1.size)
  refine ⟨_, rfl, c0_2, ?_⟩
  simp only [Act.put, List.setIfInBounds_toArray, List.set_cons_zero, List.set_cons_succ]
  refine Held.take (v := .string ⟨n3.toArray⟩) 8 (some 11) rfl rfl (by kernel_rfl) (by kernel_rfl) (by kernel_rfl) (fun _ _ _ h => h) rfl (y_cat rfl rfl rfl E3.out M3.out) c0_2 ?_
  simp only [Act.put, List.setIfInBounds_toArray, List.set_cons_zero, List.set_cons_succ]
  refine Held.take (v := .string ⟨n4.toArray⟩) 9 (some 12) rfl rfl (by kernel_rfl) (by kernel_rfl) (by kernel_rfl) (fun _ _ _ h => h) rfl (y_cat rfl rfl rfl E4.out M4.out) c0_2 ?_
  simp only [Act.put, List.setIfInBounds_toArray, List.set_cons_zero, List.set_cons_succ]
  refine Held.one 12 (by kernel_rfl) ?_
  refine Held.op_call 12 (some 15) 30 #[.int .i64 a] rfl rfl rfl rfl (enters_of Tryd.func30 (by kernel_rfl) rfl) (by simp [Act.eval]) (itoa_any a h3 w3 (hPw.below c0_2 hPw.lt)) ?_
  rintro e w4 ⟨rfl, b3⟩
  have c0_3 := c0_2.trans (b3.mono c0_2.size)
  refine ⟨_, rfl, c0_3, ?_⟩
  simp only [Act.put, List.setIfInBounds_toArray, List.set_cons_zero, List.set_cons_succ]
  refine Held.take (v := .string ⟨n5.toArray⟩) 13 (some 16) rfl rfl (by kernel_rfl) (by kernel_rfl) (by kernel_rfl) (fun _ _ _ h => h) rfl (y_cat rfl rfl rfl E5.out M5.out) c0_3 ?_
  simp only [Act.put, List.setIfInBounds_toArray, List.set_cons_zero, List.set_cons_succ]
  refine Held.take (v := .string ⟨n6.toArray⟩) 14 (some 17) rfl rfl (by kernel_rfl) (by kernel_rfl) (by kernel_rfl) (fun _ _ _ h => h) rfl (y_cat rfl rfl rfl E6.out M6.out) c0_3 ?_
  simp only [Act.put, List.setIfInBounds_toArray, List.set_cons_zero, List.set_cons_succ]
  refine Held.one 17 (by kernel_rfl) ?_
  refine Held.op_call 17 (some 20) 31 #[.int .u64 (t : Int), .int .i64 10] rfl rfl rfl rfl (enters_of Tryd.func31 (by kernel_rfl) rfl) (by simp [Act.eval]) (fuint_any t h4 w4 (hPw.below c0_3 hPw.lt)) ?_
  rintro e w5 ⟨rfl, b4⟩
  have c0_4 := c0_3.trans (b4.mono c0_3.size)
  refine ⟨_, rfl, c0_4, ?_⟩
  simp only [Act.put, List.setIfInBounds_toArray, List.set_cons_zero, List.set_cons_succ]
  refine Held.take (v := .string ⟨n7.toArray⟩) 18 (some 21) rfl rfl (by kernel_rfl) (by kernel_rfl) (by kernel_rfl) (fun _ _ _ h => h) rfl (y_cat rfl rfl rfl E7.out M7.out) c0_4 ?_
  simp only [Act.put, List.setIfInBounds_toArray, List.set_cons_zero, List.set_cons_succ]
  refine Held.take (v := .string ⟨n8.toArray⟩) 19 (some 22) rfl rfl (by kernel_rfl) (by kernel_rfl) (by kernel_rfl) (fun _ _ _ h => h) rfl (y_cat rfl rfl rfl E8.out M8.out) c0_4 ?_
  simp only [Act.put, List.setIfInBounds_toArray, List.set_cons_zero, List.set_cons_succ]
  refine Held.one 22 (by kernel_rfl) ?_
  refine Held.op_call 22 (some 25) 30 #[.int .i64 i] rfl rfl rfl rfl (enters_of Tryd.func30 (by kernel_rfl) rfl) (by simp [Act.eval]) (itoa_any i h5 w5 (hPw.below c0_4 hPw.lt)) ?_
  rintro e w6 ⟨rfl, b5⟩
  have c0_5 := c0_4.trans (b5.mono c0_4.size)
  refine ⟨_, rfl, c0_5, ?_⟩
  simp only [Act.put, List.setIfInBounds_toArray, List.set_cons_zero, List.set_cons_succ]
  refine Held.take (v := .string ⟨n9.toArray⟩) 23 (some 26) rfl rfl (by kernel_rfl) (by kernel_rfl) (by kernel_rfl) (fun _ _ _ h => h) rfl (y_cat rfl rfl rfl E9.out M9.out) c0_5 ?_
  simp only [Act.put, List.setIfInBounds_toArray, List.set_cons_zero, List.set_cons_succ]
  refine Held.take (v := .string ⟨n9.toArray⟩) 24 (some 2) rfl rfl (by kernel_rfl) (by kernel_rfl) (by kernel_rfl) (fun _ _ _ h => h) rfl (Held.y_assign rfl rfl) c0_5 ?_
  simp only [Act.put, List.setIfInBounds_toArray, List.set_cons_zero, List.set_cons_succ]
  refine wpAnyH_done (by kernel_rfl) ?_ _
  have dz := bw.trans (c0_5.mono bw.size)
  go_wp2_with fail
  go_ret
  exact ⟨by rw [HN.out]; rfl, dz⟩

set_option maxRecDepth 100000 in
set_option maxHeartbeats 8000000 in
theorem rname_any (ph r a : Int) (t : Nat) (i : Int) (h1 : I64 ph) (h2 : I64 r) (h3 : I64 a) (h4 : t < 18446744073709551616) (h5 : I64 i) (w : World) :
    Calls Tryd.prog 22 #[.agg #[.int .i64 ph, .int .i64 r, .int .i64 a, .int .u64 (t : Int), .int .i64 i]] w fun e w' => e = .returned (.string ⟨(nameU ph r a t i).toArray⟩) ∧ Below w.heap.size w w' := by
  have l1 := itoa_length ph h1
  have l2 := itoa_length r h2
  have l3 := itoa_length a h3
  have l4 := dec_length t h4
  have l5 := itoa_length i h5
  obtain ⟨n1, e1⟩ : ∃ l, [112] ++ Lib.itoa ph = l := ⟨_, rfl⟩
  have m1 : n1.length ≤ 22 := by rw [← e1]; simp; omega
  obtain ⟨n2, e2⟩ : ∃ l, n1 ++ [46, 114] = l := ⟨_, rfl⟩
  have m2 : n2.length ≤ 24 := by rw [← e2]; simp; omega
  obtain ⟨n3, e3⟩ : ∃ l, n2 ++ Lib.itoa r = l := ⟨_, rfl⟩
  have m3 : n3.length ≤ 45 := by rw [← e3]; simp; omega
  obtain ⟨n4, e4⟩ : ∃ l, n3 ++ [46, 97] = l := ⟨_, rfl⟩
  have m4 : n4.length ≤ 47 := by rw [← e4]; simp; omega
  obtain ⟨n5, e5⟩ : ∃ l, n4 ++ Lib.itoa a = l := ⟨_, rfl⟩
  have m5 : n5.length ≤ 68 := by rw [← e5]; simp; omega
  obtain ⟨n6, e6⟩ : ∃ l, n5 ++ [46, 116] = l := ⟨_, rfl⟩
  have m6 : n6.length ≤ 70 := by rw [← e6]; simp; omega
  obtain ⟨n7, e7⟩ : ∃ l, n6 ++ Lib.decDigits t = l := ⟨_, rfl⟩
  have m7 : n7.length ≤ 90 := by rw [← e7]; simp; omega
  obtain ⟨n8, e8⟩ : ∃ l, n7 ++ [46, 105] = l := ⟨_, rfl⟩
  have m8 : n8.length ≤ 92 := by rw [← e8]; simp; omega
  obtain ⟨n9, e9⟩ : ∃ l, n8 ++ Lib.itoa i = l := ⟨_, rfl⟩
  have m9 : n9.length ≤ 113 := by rw [← e9]; simp; omega
  have E1 := Lib.hid e1
  have M1 := Lib.hid (Nat.le_trans m1 (show _ ≤ 1048576 by omega))
  have E2 := Lib.hid e2
  have M2 := Lib.hid (Nat.le_trans m2 (show _ ≤ 1048576 by omega))
  have E3 := Lib.hid e3
  have M3 := Lib.hid (Nat.le_trans m3 (show _ ≤ 1048576 by omega))
  have E4 := Lib.hid e4
  have M4 := Lib.hid (Nat.le_trans m4 (show _ ≤ 1048576 by omega))
  have E5 := Lib.hid e5
  have M5 := Lib.hid (Nat.le_trans m5 (show _ ≤ 1048576 by omega))
  have E6 := Lib.hid e6
  have M6 := Lib.hid (Nat.le_trans m6 (show _ ≤ 1048576 by omega))
  have E7 := Lib.hid e7
  have M7 := Lib.hid (Nat.le_trans m7 (show _ ≤ 1048576 by omega))
  have E8 := Lib.hid e8
  have M8 := Lib.hid (Nat.le_trans m8 (show _ ≤ 1048576 by omega))
  have E9 := Lib.hid e9
  have M9 := Lib.hid (Nat.le_trans m9 (show _ ≤ 1048576 by omega))
  have HN := Lib.hid (show nameU ph r a t i = n9 by rw [← e9, ← e8, ← e7, ← e6, ← e5, ← e4, ← e3, ← e2, ← e1]; rfl)
  clear e1 m1 e2 m2 e3 m3 e4 m4 e5 m5 e6 m6 e7 m7 e8 m8 e9 m9 l1 l2 l3 l4 l5
  go_enter Tryd.func22, Tryd.ntmps22
  go_wp2_with (refine wpList_box_place (w := w) rfl _ rfl #[.int .i64 ph, .int .i64 r, .int .i64 a, .int .u64 (t : Int), .int .i64 i] rfl rfl ?_; intro w1 q1 g1)
  have bw : Below w.heap.size w w1 := (Below.refl _ w).grown g1 (Nat.le_refl _) (by simp)
  obtain ⟨bp, hbe⟩ : ∃ b, w.heap.size = b := ⟨_, rfl⟩
  rw [hbe] at q1 ⊢
  have hbp : bp < w1.heap.size := (Array.getElem?_eq_some_iff.1 q1).1
  have f0 : w1.cell? ⟨bp, 0, none⟩ = some (.int .i64 ph) := by rw [cell_of_row w1 bp 0 _ _ _ q1]; rfl
  have f1 : w1.cell? ⟨bp, 1, none⟩ = some (.int .i64 r) := by rw [cell_of_row w1 bp 1 _ _ _ q1]; rfl
  have f2 : w1.cell? ⟨bp, 2, none⟩ = some (.int .i64 a) := by rw [cell_of_row w1 bp 2 _ _ _ q1]; rfl
  have f3 : w1.cell? ⟨bp, 3, none⟩ = some (.int .u64 (t : Int)) := by rw [cell_of_row w1 bp 3 _ _ _ q1]; rfl
  have f4 : w1.cell? ⟨bp, 4, none⟩ = some (.int .i64 i) := by rw [cell_of_row w1 bp 4 _ _ _ q1]; rfl
  have HBE := Lib.hid hbe
  clear hbe g1 q1
  refine wp_region_held (S := fun W => Below w1.heap.size w1 W) (by kernel_rfl) ?_
  change wpAnyH _ _ _ _ _ _ _ _ w1.drew
  have c0_0 := (Below.refl w1.heap.size w1).drew
  refine Held.take (v := .pointer (some ⟨bp, 0, none⟩)) 0 (some 3) rfl rfl (by kernel_rfl) (by kernel_rfl) (by kernel_rfl) (fun _ _ _ h => h) rfl (y_place (by omega) rfl rfl) c0_0 ?_
  simp only [Act.put, List.setIfInBounds_toArray, List.set_cons_zero, List.set_cons_succ]
  refine Held.take (v := .int .i64 ph) 1 (some 4) rfl rfl (by kernel_rfl) (by kernel_rfl) (by kernel_rfl) (fun _ _ _ h => h) rfl (Held.y_load rfl rfl (by kernel_rfl) (fun W hW => (hW.cell (p := ⟨bp, 0, none⟩) hbp).trans f0)) c0_0 ?_
  simp only [Act.put, List.setIfInBounds_toArray, List.set_cons_zero, List.set_cons_succ]
  refine Held.take (v := .pointer (some ⟨bp, 1, none⟩)) 5 (some 8) rfl rfl (by kernel_rfl) (by kernel_rfl) (by kernel_rfl) (fun _ _ _ h => h) rfl (y_place (by omega) rfl rfl) c0_0 ?_
  simp only [Act.put, List.setIfInBounds_toArray, List.set_cons_zero, List.set_cons_succ]
  refine Held.take (v := .int .i64 r) 6 (some 9) rfl rfl (by kernel_rfl) (by kernel_rfl) (by kernel_rfl) (fun _ _ _ h => h) rfl (Held.y_load rfl rfl (by kernel_rfl) (fun W hW => (hW.cell (p := ⟨bp, 1, none⟩) hbp).trans f1)) c0_0 ?_
  simp only [Act.put, List.setIfInBounds_toArray, List.set_cons_zero, List.set_cons_succ]
  refine Held.take (v := .pointer (some ⟨bp, 2, none⟩)) 10 (some 13) rfl rfl (by kernel_rfl) (by kernel_rfl) (by kernel_rfl) (fun _ _ _ h => h) rfl (y_place (by omega) rfl rfl) c0_0 ?_
  simp only [Act.put, List.setIfInBounds_toArray, List.set_cons_zero, List.set_cons_succ]
  refine Held.take (v := .int .i64 a) 11 (some 14) rfl rfl (by kernel_rfl) (by kernel_rfl) (by kernel_rfl) (fun _ _ _ h => h) rfl (Held.y_load rfl rfl (by kernel_rfl) (fun W hW => (hW.cell (p := ⟨bp, 2, none⟩) hbp).trans f2)) c0_0 ?_
  simp only [Act.put, List.setIfInBounds_toArray, List.set_cons_zero, List.set_cons_succ]
  refine Held.take (v := .pointer (some ⟨bp, 3, none⟩)) 15 (some 18) rfl rfl (by kernel_rfl) (by kernel_rfl) (by kernel_rfl) (fun _ _ _ h => h) rfl (y_place (by omega) rfl rfl) c0_0 ?_
  simp only [Act.put, List.setIfInBounds_toArray, List.set_cons_zero, List.set_cons_succ]
  refine Held.take (v := .int .u64 (t : Int)) 16 (some 19) rfl rfl (by kernel_rfl) (by kernel_rfl) (by kernel_rfl) (fun _ _ _ h => h) rfl (Held.y_load rfl rfl (by kernel_rfl) (fun W hW => (hW.cell (p := ⟨bp, 3, none⟩) hbp).trans f3)) c0_0 ?_
  simp only [Act.put, List.setIfInBounds_toArray, List.set_cons_zero, List.set_cons_succ]
  refine Held.take (v := .pointer (some ⟨bp, 4, none⟩)) 20 (some 23) rfl rfl (by kernel_rfl) (by kernel_rfl) (by kernel_rfl) (fun _ _ _ h => h) rfl (y_place (by omega) rfl rfl) c0_0 ?_
  simp only [Act.put, List.setIfInBounds_toArray, List.set_cons_zero, List.set_cons_succ]
  refine Held.take (v := .int .i64 i) 21 (some 24) rfl rfl (by kernel_rfl) (by kernel_rfl) (by kernel_rfl) (fun _ _ _ h => h) rfl (Held.y_load rfl rfl (by kernel_rfl) (fun W hW => (hW.cell (p := ⟨bp, 4, none⟩) hbp).trans f4)) c0_0 ?_
  simp only [Act.put, List.setIfInBounds_toArray, List.set_cons_zero, List.set_cons_succ]
  refine Held.one 2 (by kernel_rfl) ?_
  refine Held.op_call 2 (some 5) 32 #[.int .i64 ph] rfl rfl rfl rfl (enters_of Tryd.func32 (by kernel_rfl) rfl) (by simp [Act.eval]) (number_any ph h1 w1.drew) ?_
  rintro e w2 ⟨rfl, b1⟩
  have c0_1 := c0_0.trans (b1.mono c0_0.size)
  refine ⟨_, rfl, c0_1, ?_⟩
  simp only [Act.put, List.setIfInBounds_toArray, List.set_cons_zero, List.set_cons_succ]
  refine Held.take (v := .string ⟨n1.toArray⟩) 3 (some 6) rfl rfl (by kernel_rfl) (by kernel_rfl) (by kernel_rfl) (fun _ _ _ h => h) rfl (y_cat rfl rfl rfl E1.out M1.out) c0_1 ?_
  simp only [Act.put, List.setIfInBounds_toArray, List.set_cons_zero, List.set_cons_succ]
  refine Held.take (v := .string ⟨n2.toArray⟩) 4 (some 7) rfl rfl (by kernel_rfl) (by kernel_rfl) (by kernel_rfl) (fun _ _ _ h => h) rfl (y_cat rfl rfl rfl E2.out M2.out) c0_1 ?_
  simp only [Act.put, List.setIfInBounds_toArray, List.set_cons_zero, List.set_cons_succ]
  refine Held.one 7 (by kernel_rfl) ?_
  refine Held.op_call 7 (some 10) 32 #[.int .i64 r] rfl rfl rfl rfl (enters_of Tryd.func32 (by kernel_rfl) rfl) (by simp [Act.eval]) (number_any r h2 w2) ?_
  rintro e w3 ⟨rfl, b2⟩
  have c0_2 := c0_1.trans (b2.mono c0_1.size)
  refine ⟨_, rfl, c0_2, ?_⟩
  simp only [Act.put, List.setIfInBounds_toArray, List.set_cons_zero, List.set_cons_succ]
  refine Held.take (v := .string ⟨n3.toArray⟩) 8 (some 11) rfl rfl (by kernel_rfl) (by kernel_rfl) (by kernel_rfl) (fun _ _ _ h => h) rfl (y_cat rfl rfl rfl E3.out M3.out) c0_2 ?_
  simp only [Act.put, List.setIfInBounds_toArray, List.set_cons_zero, List.set_cons_succ]
  refine Held.take (v := .string ⟨n4.toArray⟩) 9 (some 12) rfl rfl (by kernel_rfl) (by kernel_rfl) (by kernel_rfl) (fun _ _ _ h => h) rfl (y_cat rfl rfl rfl E4.out M4.out) c0_2 ?_
  simp only [Act.put, List.setIfInBounds_toArray, List.set_cons_zero, List.set_cons_succ]
  refine Held.one 12 (by kernel_rfl) ?_
  refine Held.op_call 12 (some 15) 32 #[.int .i64 a] rfl rfl rfl rfl (enters_of Tryd.func32 (by kernel_rfl) rfl) (by simp [Act.eval]) (number_any a h3 w3) ?_
  rintro e w4 ⟨rfl, b3⟩
  have c0_3 := c0_2.trans (b3.mono c0_2.size)
  refine ⟨_, rfl, c0_3, ?_⟩
  simp only [Act.put, List.setIfInBounds_toArray, List.set_cons_zero, List.set_cons_succ]
  refine Held.take (v := .string ⟨n5.toArray⟩) 13 (some 16) rfl rfl (by kernel_rfl) (by kernel_rfl) (by kernel_rfl) (fun _ _ _ h => h) rfl (y_cat rfl rfl rfl E5.out M5.out) c0_3 ?_
  simp only [Act.put, List.setIfInBounds_toArray, List.set_cons_zero, List.set_cons_succ]
  refine Held.take (v := .string ⟨n6.toArray⟩) 14 (some 17) rfl rfl (by kernel_rfl) (by kernel_rfl) (by kernel_rfl) (fun _ _ _ h => h) rfl (y_cat rfl rfl rfl E6.out M6.out) c0_3 ?_
  simp only [Act.put, List.setIfInBounds_toArray, List.set_cons_zero, List.set_cons_succ]
  refine Held.one 17 (by kernel_rfl) ?_
  refine Held.op_call 17 (some 20) 33 #[.int .u64 (t : Int)] rfl rfl rfl rfl (enters_of Tryd.func33 (by kernel_rfl) rfl) (by simp [Act.eval]) (digits_at t h4 w4) ?_
  rintro e w5 ⟨rfl, b4⟩
  have c0_4 := c0_3.trans (b4.mono c0_3.size)
  refine ⟨_, rfl, c0_4, ?_⟩
  simp only [Act.put, List.setIfInBounds_toArray, List.set_cons_zero, List.set_cons_succ]
  refine Held.take (v := .string ⟨n7.toArray⟩) 18 (some 21) rfl rfl (by kernel_rfl) (by kernel_rfl) (by kernel_rfl) (fun _ _ _ h => h) rfl (y_cat rfl rfl rfl E7.out M7.out) c0_4 ?_
  simp only [Act.put, List.setIfInBounds_toArray, List.set_cons_zero, List.set_cons_succ]
  refine Held.take (v := .string ⟨n8.toArray⟩) 19 (some 22) rfl rfl (by kernel_rfl) (by kernel_rfl) (by kernel_rfl) (fun _ _ _ h => h) rfl (y_cat rfl rfl rfl E8.out M8.out) c0_4 ?_
  simp only [Act.put, List.setIfInBounds_toArray, List.set_cons_zero, List.set_cons_succ]
  refine Held.one 22 (by kernel_rfl) ?_
  refine Held.op_call 22 (some 25) 32 #[.int .i64 i] rfl rfl rfl rfl (enters_of Tryd.func32 (by kernel_rfl) rfl) (by simp [Act.eval]) (number_any i h5 w5) ?_
  rintro e w6 ⟨rfl, b5⟩
  have c0_5 := c0_4.trans (b5.mono c0_4.size)
  refine ⟨_, rfl, c0_5, ?_⟩
  simp only [Act.put, List.setIfInBounds_toArray, List.set_cons_zero, List.set_cons_succ]
  refine Held.take (v := .string ⟨n9.toArray⟩) 23 (some 26) rfl rfl (by kernel_rfl) (by kernel_rfl) (by kernel_rfl) (fun _ _ _ h => h) rfl (y_cat rfl rfl rfl E9.out M9.out) c0_5 ?_
  simp only [Act.put, List.setIfInBounds_toArray, List.set_cons_zero, List.set_cons_succ]
  refine Held.take (v := .string ⟨n9.toArray⟩) 24 (some 2) rfl rfl (by kernel_rfl) (by kernel_rfl) (by kernel_rfl) (fun _ _ _ h => h) rfl (Held.y_assign rfl rfl) c0_5 ?_
  simp only [Act.put, List.setIfInBounds_toArray, List.set_cons_zero, List.set_cons_succ]
  refine wpAnyH_done (by kernel_rfl) ?_ _
  have dz := bw.trans (c0_5.mono bw.size)
  go_wp2_with fail
  go_ret
  exact ⟨by rw [HN.out]; rfl, dz⟩

end Go.Proofs.YtoelgcdjhekafaaDoor.Ky
